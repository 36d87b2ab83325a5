/- The reader: nil and same, and their Kids. Conditions: the tables lie in memory; the tokens are at most 4611686018427387902.
Parse, where nil and same are told: what it reads is what the plain function reads. Conditions: the tokens are at most 4611686018427387902.
Parse, whole: what it reads is what the plain function reads. Conditions: the tokens are at most 4611686018427387902.
The chapter's example is as it says. Conditions: the tables lie in memory. -/
import Derived.Test.YtdehpgdffafebaaDoorZav
import Derived.Test.YtdehpgdffafebaaDoorZao
namespace Go.Proofs.YtdehpgdffafebaaDoor
open Go.RowKit
set_option linter.unusedVariables false

set_option maxRecDepth 100000 in
set_option maxHeartbeats 8000000 in
theorem asked_any (k : Int) (n : Nat) (hkn : E.kidsN k = (n : Int)) (hn1 : 1 ≤ n) (hn2 : n ≤ 2) (l : List Gt) (hl : l.length ≤ 4611686018427387902) (R B : Nat) (A : Option Addr) (c a r : Nat) (w : World) (h : RdAll R B l A c a r w) (ha : a ≤ l.length) :
    Calls Tryd.prog 64 #[pR R, .int .i64 k] w (PtP R B l A c r w (askP l k n [] ⟨#[40]⟩ (a + 1))) := by
  obtain ⟨i0, hi, hz0, hz1, hz2⟩ := info_parts part_info
  have hS := Rs.new h.rd
  obtain ⟨W0, hW0⟩ : ∃ W0, W0 = (w.alloc pt0).alloc flt0 := ⟨_, rfl⟩
  rw [← hW0] at hS
  have hTK := Lib.hid (rd_take R B l A c a r W0 hS.rd (by omega))
  have HKO : Hid (∀ W, Calls Tryd.prog 30 #[.int .i64 k] W fun x w' => x = .returned (.tuple #[.int .i64 (n : Int), .bool (E.isKind k)]) ∧ w' = W) := Lib.hid (fun W => by rw [← hkn]; exact kidsOf_any k W)
  have HBR : Hid (∀ (a' : Nat) W, a' ≤ l.length → w.grownBy W (some R) → Rd R B l A c a' r W → Calls Tryd.prog 77 #[pR R, .int .i64 k] W (PtP R B l A c r W (bareP k l a'))) := Lib.hid (fun a' W ha' hg hr => bare_any k R B l A c a' r W hr (by omega) (h.to hg hr).pl h.hpl)
  have HWT : Hid (∀ (a' : Nat) (s : ByteArray) W, a' ≤ l.length + 1 → Rd R B l A c a' r W → Calls Tryd.prog 76 #[pR R, .string s] W (RdP R B l A c W (if (tokN l a').is s = true then fV 0 0 else fV 3 (tokN l a').pos) (if (tokN l a').is s = true then a' + 1 else a') r)) := Lib.hid (fun a' s W ha' hr => rd_want R B l A c a' r s W hr (by omega))
  obtain ⟨t, ht⟩ : ∃ t, t = tokN l a := ⟨_, rfl⟩
  rw [← ht] at hTK
  have HS := Lib.hid hS
  obtain ⟨fin, hfin⟩ : ∃ fin, fin = askP l k n [] ⟨#[40]⟩ (a + 1) := ⟨_, rfl⟩
  rw [← hfin]
  have HFIN := Lib.hid hfin
  obtain ⟨t0, ht0⟩ : ∃ t0, t0 = t := ⟨_, rfl⟩
  obtain ⟨tk, tx, tp⟩ := t
  have hv : Gt.val ⟨tk, tx, tp⟩ = .agg #[.int .i64 tk, .string tx, .int .i64 tp] := rfl
  rw [hv] at hTK
  have HTV : Hid (t0.val = .agg #[.int .i64 tk, .string tx, .int .i64 tp]) := Lib.hid (by rw [ht0]; rfl)
  have HLL := Lib.hid hl
  have HAA := Lib.hid ha
  have hRw := hS.hR
  clear ht hv h hS ht0 hfin hkn
  go_enter Tryd.func64, Tryd.ntmps64
  go_wp2_with fail
  rw [← hW0]
  clear hW0
  refine hTK.out.mono ?_
  rintro e w1 ⟨rfl, hrd1, hg1⟩
  have hS1 := HS.out.step hrd1 hg1
  have hb2 := boxed w1 (.cells #[.int .i64 tk, .string tx, .int .i64 tp] 49)
  have hn2' := heap_new w1 (.cells #[.int .i64 tk, .string tx, .int .i64 tp] 49)
  have hS2 := hS1.below hb2
  have hl1 := heap_lt hS1.b1
  obtain ⟨W2, hW2⟩ : ∃ W2, W2 = w1.alloc (.cells #[.int .i64 tk, .string tx, .int .i64 tp] 49) := ⟨_, rfl⟩
  obtain ⟨g6, hg6⟩ : ∃ g6, g6 = w1.heap.size := ⟨_, rfl⟩
  have HAT : Hid (AkAt R B l A c r w g6 n k #[.int .i64 tk, .string tx, .int .i64 tp] fin n (.slice none 0 0) (.string ⟨#[40]⟩) W2) := Lib.hid ⟨by rw [hW2, hg6]; exact hn2', by omega, a + 1, [], ⟨#[40]⟩, rfl, by simp, by rw [hW2]; exact hS2, World.ownsRow_nil _ _ _ _, by simp, by omega, HFIN.out⟩
  clear hb2 hn2' hS1 hS2 hrd1 hg1
  go_wp2_with fail
  rw [← hW2, ← hg6]
  have hg6w : w.heap.size + 2 ≤ g6 := by omega
  clear hW2 hg6 hl1
  refine (HKO.out W2).mono ?_
  rintro e w3 ⟨rfl, rfl⟩
  go_wp2_with fail
  go_loopg [7, 10] n (fun g v sv wr => Hid (AkAt R B l A c r w g6 n k #[.int .i64 tk, .string tx, .int .i64 tp] fin g v sv wr))
  case atStart => exact HAT
  case round =>
    obtain ⟨a1, qs, s, rfl, hqn, hS3, hown, hmay, ha1, hres⟩ := hrel.out.ex
    obtain ⟨VA, vc, rfl⟩ := own_slice hown
    have HS3 := Lib.hid hS3
    have HOW := Lib.hid hown
    have HMAY := Lib.hid hmay
    have HRES := Lib.hid hres
    have hlr := heap_lt hS3.b1
    have hl6 := heap_lt hrel.out.tok
    have HT6 := Lib.hid hrel.out.tok
    have HREL := hrel
    clear hS3 hown hmay hres HAT
    cases gk with
    | zero =>
      have hdec : decide ((qs.length : Int) < (n : Int)) = false := by simp; omega
      obtain ⟨g, cap, rfl, rfl⟩ : ∃ g cap, VA = some ⟨g, 0, none⟩ ∧ vc = cap := by
        rcases HOW.out.2 with ⟨_, h0⟩ | ⟨g, cap, cur, h1, _⟩
        · omega
        · simp at h1
          exact ⟨g, cap, h1.1, h1.2⟩
      have HCAP : Hid (qs.length ≤ vc ∧ vc ≤ maxLen ∧ g6 + 1 ≤ g ∧ g < wr.heap.size) := Lib.hid (by
        have h3 := HOW.out.lt g rfl
        rcases HOW.out.2 with ⟨h1, h0⟩ | ⟨g', cap, cur, h1, h2, h3', h4, h5, _⟩
        · omega
        · simp at h1
          obtain ⟨_, rfl⟩ := h1
          exact ⟨h4, h5, h3.1, h3.2⟩)
      have HW := Lib.hid (HWT.out a1 ⟨#[41]⟩ wr ha1 HS3.out.rd)
      obtain ⟨tp1, htp1⟩ : ∃ tp, tp = (tokN l a1).pos := ⟨_, rfl⟩
      obtain ⟨b, hb⟩ : ∃ b, b = (tokN l a1).is ⟨#[41]⟩ := ⟨_, rfl⟩
      have HF1 : Hid (fin = if b = true then .ok (.mk k 0 ⟨#[]⟩ (qs.map Qk.e)) 2 (a1 + 1) else .err 3 tp1) := Lib.hid (by rw [HRES.out, hb, htp1]; rfl)
      rw [← hb, ← htp1] at HW
      clear hb htp1
      cases b with
      | false =>
        have HF2 : Hid (fin = .err 3 tp1) := Lib.hid HF1.out
        have HW : Hid (Calls Tryd.prog 76 #[pR R, .string ⟨#[41]⟩] wr (RdP R B l A c wr (fV 3 tp1) a1 r)) := HW
        go_wp2_with fail
        refine HW.out.mono ?_
        rintro x w5 ⟨rfl, hrd5, hg5⟩
        have HS5 := Lib.hid (HS3.out.step hrd5 hg5)
        have hl5 := heap_lt HS5.out.b1
        have hn6 := heap_new w5 (.cells #[.int .i64 3, .int .i64 tp1] 35)
        have hb6 := boxed w5 (.cells #[.int .i64 3, .int .i64 tp1] 35)
        have HS6 := Lib.hid (HS5.out.below hb6)
        obtain ⟨W6, hW6⟩ : ∃ W6, W6 = w5.alloc (.cells #[.int .i64 3, .int .i64 tp1] 35) := ⟨_, rfl⟩
        rw [← hW6] at hn6 HS6
        have HY := Lib.hid hn6
        obtain ⟨p7, hp7⟩ : ∃ p7, p7 = w5.heap.size := ⟨_, rfl⟩
        rw [← hp7] at HY
        clear hrd5 hg5 hb6 hn6
        go_upto_region 15 with fail
        rw [← hW6, ← hp7]
        have hp7w : w.heap.size + 2 ≤ p7 := by omega
        clear hW6 hp7
        obtain ⟨q0, q1⟩ := row2 HY.out
        obtain ⟨x0, x1, x2, x3, x4⟩ := row5 HS6.out.b0
        obtain ⟨y0, y1⟩ := row2 HS6.out.b1
        have f0 := frozen_of HS6.out.b0 0
        have f1 := frozen_of HS6.out.b0 1
        have f2 := frozen_of HS6.out.b0 2
        have f3 := frozen_of HS6.out.b0 3
        have f4 := frozen_of HS6.out.b0 4
        have g0 := frozen_of HS6.out.b1 0
        have g1 := frozen_of HS6.out.b1 1
        have n0 : ¬ w.heap.size = p7 := by omega
        have n1 : ¬ w.heap.size + 1 = p7 := by omega
        have n2 : ¬ p7 = w.heap.size := by omega
        have n3 : ¬ p7 = w.heap.size + 1 := by omega
        go_upto_region 16 with fail
        go_wp2_with fail
        go_region
        go_wp2_with fail
        have hF := (HS6.out.put (.int .i64 0) (.int .i64 0) (.string ⟨#[]⟩) (.slice none 0 0) (.int .i64 0) (.int .i64 3) (.int .i64 tp1)).below (drew_below _)
        change bodyPost _ _ _ _ _ (World.drew (stPF w.heap.size W6 (.int .i64 0) (.int .i64 0) (.string ⟨#[]⟩) (.slice none 0 0) (.int .i64 0) (.int .i64 3) (.int .i64 tp1)))
        generalize World.drew (stPF w.heap.size W6 (.int .i64 0) (.int .i64 0) (.string ⟨#[]⟩) (.slice none 0 0) (.int .i64 0) (.int .i64 3) (.int .i64 tp1)) = Wf at hF ⊢
        obtain ⟨r0, r1, r2, r3, r4⟩ := row5 hF.b0
        obtain ⟨s0, s1⟩ := row2 hF.b1
        exact bodyPost_ret (v := .tuple #[.agg #[.int .i64 0, .int .i64 0, .string ⟨#[]⟩, .slice none 0 0, .int .i64 0], fV 3 tp1]) (by simp [results, Tryd.results64, go_sem, r0, r1, r2, r3, r4, s0, s1]) rfl ⟨hF.gb, by rw [HF2.out]; exact ⟨rfl, by decide, _, hF.rd⟩⟩
      | true =>
        have HF2 : Hid (fin = .ok (.mk k 0 ⟨#[]⟩ (qs.map Qk.e)) 2 (a1 + 1)) := Lib.hid HF1.out
        have HW : Hid (Calls Tryd.prog 76 #[pR R, .string ⟨#[41]⟩] wr (RdP R B l A c wr (fV 0 0) (a1 + 1) r)) := HW
        go_wp2_with fail
        refine HW.out.mono ?_
        rintro x w5 ⟨rfl, hrd5, hg5⟩
        have HS5 := Lib.hid (HS3.out.step hrd5 hg5)
        have hl5 := heap_lt HS5.out.b1
        have hgs5 := hg5.size
        have hn6 := heap_new w5 (.cells #[.int .i64 0, .int .i64 0] 35)
        have hb6 := boxed w5 (.cells #[.int .i64 0, .int .i64 0] 35)
        have HS6 := Lib.hid (HS5.out.below hb6)
        have ho6 := own_gb (own_gb HOW.out hg5 (by omega)) (gb_below hb6 (some R)) (by omega)
        have ht6 := (hb6.block _ (by omega)).trans ((hg5.block _ hl6 (fun e => by have := Option.some.inj e; omega)).trans HT6.out)
        have hs6 := hb6.size
        obtain ⟨W6, hW6⟩ : ∃ W6, W6 = w5.alloc (.cells #[.int .i64 0, .int .i64 0] 35) := ⟨_, rfl⟩
        rw [← hW6] at hn6 HS6 ho6 ht6 hs6
        have HC6 := Lib.hid (over_qs t0 k qs g vc W6 (by omega) (by omega) HCAP.out.1 HCAP.out.2.1 (ho6.cells (g := g) rfl) (by have := HCAP.out.2.2.2; omega) HMAY.out)
        rw [show t0.val = .agg #[.int .i64 tk, .string tx, .int .i64 tp] from HTV.out] at HC6
        obtain ⟨q0, q1⟩ := row2 hn6
        obtain ⟨t0', t1', t2'⟩ := row3 ht6
        clear hrd5 hg5 hb6 hn6 ho6 ht6
        go_upto_region 15 with fail
        rw [← hW6]
        clear hW6
        go_wp2_with fail
        refine HC6.out.mono ?_
        rintro x w7 ⟨hb7, A', c', rfl, hi7⟩
        have HS7 := Lib.hid (HS6.out.below hb7)
        have HI7 := Lib.hid hi7
        clear q0 q1 t0' t1' t2' hb7 hi7
        obtain ⟨x0, x1, x2, x3, x4⟩ := row5 HS7.out.b0
        obtain ⟨y0, y1⟩ := row2 HS7.out.b1
        have f0 := frozen_of HS7.out.b0 0
        have f1 := frozen_of HS7.out.b0 1
        have f2 := frozen_of HS7.out.b0 2
        have f3 := frozen_of HS7.out.b0 3
        have f4 := frozen_of HS7.out.b0 4
        have g0 := frozen_of HS7.out.b1 0
        have g1 := frozen_of HS7.out.b1 1
        go_wp2_with fail
        have hF := HS7.out.put (.int .i64 k) (.int .i64 0) (.string ⟨#[]⟩) (.slice A' qs.length c') (.int .i64 2) (.int .i64 0) (.int .i64 0)
        have hk := stPF_keep w.heap.size w7 (.int .i64 k) (.int .i64 0) (.string ⟨#[]⟩) (.slice A' qs.length c') (.int .i64 2) (.int .i64 0) (.int .i64 0)
        have hsz := (stPF_gb (R := 0) w.heap.size w7 (.int .i64 k) (.int .i64 0) (.string ⟨#[]⟩) (.slice A' qs.length c') (.int .i64 2) (.int .i64 0) (.int .i64 0)).size
        change bodyPost _ _ _ _ _ (stPF w.heap.size w7 (.int .i64 k) (.int .i64 0) (.string ⟨#[]⟩) (.slice A' qs.length c') (.int .i64 2) (.int .i64 0) (.int .i64 0))
        generalize stPF w.heap.size w7 (.int .i64 k) (.int .i64 0) (.string ⟨#[]⟩) (.slice A' qs.length c') (.int .i64 2) (.int .i64 0) (.int .i64 0) = Wf at hF hk hsz ⊢
        obtain ⟨r0, r1, r2, r3, r4⟩ := row5 hF.b0
        obtain ⟨s0, s1⟩ := row2 hF.b1
        refine bodyPost_ret (v := .tuple #[.agg #[.int .i64 k, .int .i64 0, .string ⟨#[]⟩, .slice A' qs.length c', .int .i64 2], fV 0 0]) (by simp [results, Tryd.results64, go_sem, r0, r1, r2, r3, r4, s0, s1]) rfl ⟨hF.gb, ?_⟩
        rw [HF2.out]
        refine ⟨k, 0, ⟨#[]⟩, A', qs.length, c', rfl, HI7.out.imp (fun b hb => ⟨by have := hb.1; omega, by have := hb.2; omega⟩) (fun b hb => hk b (by have := hb.1; omega) (by have := hb.1; omega)), hF.rd⟩
    | succ m =>
      have hdec : decide ((qs.length : Int) < (n : Int)) = true := by simp; omega
      have HW := Lib.hid (HWT.out a1 s wr ha1 HS3.out.rd)
      obtain ⟨tp1, htp1⟩ : ∃ tp, tp = (tokN l a1).pos := ⟨_, rfl⟩
      obtain ⟨b, hb⟩ : ∃ b, b = (tokN l a1).is s := ⟨_, rfl⟩
      have HF1 : Hid (fin = if b = true then thenP (bareP k l (a1 + 1)) (fun e _ a2 => askP l k m (qs.map Qk.e ++ [e]) ⟨#[44]⟩ a2) else .err 3 tp1) := Lib.hid (by rw [HRES.out, hb, htp1]; rfl)
      have HIN : Hid (b = true → a1 < l.length) := Lib.hid (fun h => isN_in (by rw [← hb]; exact h))
      rw [← hb, ← htp1] at HW
      clear hb htp1
      cases b with
      | false =>
        have HF2 : Hid (fin = .err 3 tp1) := Lib.hid HF1.out
        have HW : Hid (Calls Tryd.prog 76 #[pR R, .string s] wr (RdP R B l A c wr (fV 3 tp1) a1 r)) := HW
        go_wp2_with fail
        refine HW.out.mono ?_
        rintro x w5 ⟨rfl, hrd5, hg5⟩
        have HS5 := Lib.hid (HS3.out.step hrd5 hg5)
        have hl5 := heap_lt HS5.out.b1
        have hn6 := heap_new w5 (.cells #[.int .i64 3, .int .i64 tp1] 35)
        have hb6 := boxed w5 (.cells #[.int .i64 3, .int .i64 tp1] 35)
        have HS6 := Lib.hid (HS5.out.below hb6)
        obtain ⟨W6, hW6⟩ : ∃ W6, W6 = w5.alloc (.cells #[.int .i64 3, .int .i64 tp1] 35) := ⟨_, rfl⟩
        rw [← hW6] at hn6 HS6
        have HY := Lib.hid hn6
        obtain ⟨p7, hp7⟩ : ∃ p7, p7 = w5.heap.size := ⟨_, rfl⟩
        rw [← hp7] at HY
        clear hrd5 hg5 hb6 hn6
        go_upto_region 8 with fail
        rw [← hW6, ← hp7]
        have hp7w : w.heap.size + 2 ≤ p7 := by omega
        clear hW6 hp7
        obtain ⟨q0, q1⟩ := row2 HY.out
        obtain ⟨x0, x1, x2, x3, x4⟩ := row5 HS6.out.b0
        obtain ⟨y0, y1⟩ := row2 HS6.out.b1
        have f0 := frozen_of HS6.out.b0 0
        have f1 := frozen_of HS6.out.b0 1
        have f2 := frozen_of HS6.out.b0 2
        have f3 := frozen_of HS6.out.b0 3
        have f4 := frozen_of HS6.out.b0 4
        have g0 := frozen_of HS6.out.b1 0
        have g1 := frozen_of HS6.out.b1 1
        have n0 : ¬ w.heap.size = p7 := by omega
        have n1 : ¬ w.heap.size + 1 = p7 := by omega
        have n2 : ¬ p7 = w.heap.size := by omega
        have n3 : ¬ p7 = w.heap.size + 1 := by omega
        go_upto_region 9 with fail
        go_wp2_with fail
        go_region
        go_wp2_with fail
        have hF := (HS6.out.put (.int .i64 0) (.int .i64 0) (.string ⟨#[]⟩) (.slice none 0 0) (.int .i64 0) (.int .i64 3) (.int .i64 tp1)).below (drew_below _)
        change bodyPost _ _ _ _ _ (World.drew (stPF w.heap.size W6 (.int .i64 0) (.int .i64 0) (.string ⟨#[]⟩) (.slice none 0 0) (.int .i64 0) (.int .i64 3) (.int .i64 tp1)))
        generalize World.drew (stPF w.heap.size W6 (.int .i64 0) (.int .i64 0) (.string ⟨#[]⟩) (.slice none 0 0) (.int .i64 0) (.int .i64 3) (.int .i64 tp1)) = Wf at hF ⊢
        obtain ⟨r0, r1, r2, r3, r4⟩ := row5 hF.b0
        obtain ⟨s0, s1⟩ := row2 hF.b1
        exact bodyPost_ret (v := .tuple #[.agg #[.int .i64 0, .int .i64 0, .string ⟨#[]⟩, .slice none 0 0, .int .i64 0], fV 3 tp1]) (by simp [results, Tryd.results64, go_sem, r0, r1, r2, r3, r4, s0, s1]) rfl ⟨hF.gb, by rw [HF2.out]; exact ⟨rfl, by decide, _, hF.rd⟩⟩
      | true =>
        have h1in := HIN.out rfl
        have HF2 : Hid (fin = thenP (bareP k l (a1 + 1)) (fun e _ a2 => askP l k m (qs.map Qk.e ++ [e]) ⟨#[44]⟩ a2)) := Lib.hid HF1.out
        have HW : Hid (Calls Tryd.prog 76 #[pR R, .string s] wr (RdP R B l A c wr (fV 0 0) (a1 + 1) r)) := HW
        clear HF1
        go_wp2_with fail
        refine HW.out.mono ?_
        rintro x w5 ⟨rfl, hrd5, hg5⟩
        have HS5 := Lib.hid (HS3.out.step hrd5 hg5)
        have hl5 := heap_lt HS5.out.b1
        have hgs5 := hg5.size
        have hn6 := heap_new w5 (.cells #[.int .i64 0, .int .i64 0] 35)
        have hb6 := boxed w5 (.cells #[.int .i64 0, .int .i64 0] 35)
        have HS6 := Lib.hid (HS5.out.below hb6)
        have ho6 := own_gb (own_gb HOW.out hg5 (by omega)) (gb_below hb6 (some R)) (by omega)
        have ht6 := (hb6.block _ (by omega)).trans ((hg5.block _ hl6 (fun e => by have := Option.some.inj e; omega)).trans HT6.out)
        obtain ⟨W6, hW6⟩ : ∃ W6, W6 = w5.alloc (.cells #[.int .i64 0, .int .i64 0] 35) := ⟨_, rfl⟩
        rw [← hW6] at hn6 HS6 ho6 ht6
        have HO6 := Lib.hid ho6
        have HT6' := Lib.hid ht6
        obtain ⟨q0, q1⟩ := row2 hn6
        have HBR6 := Lib.hid (HBR.out (a1 + 1) W6 (by omega) HS6.out.gb HS6.out.rd)
        obtain ⟨prb, hprb⟩ : ∃ prb, prb = bareP k l (a1 + 1) := ⟨_, rfl⟩
        have HPB := Lib.hid hprb
        rw [← hprb] at HBR6 HF2
        clear hrd5 hg5 hb6 hn6 ho6 ht6 hprb
        go_upto_region 8 with fail
        rw [← hW6]
        clear hW6
        go_wp2_with fail
        refine HBR6.out.mono ?_
        rintro x w7 hpt
        clear q0 q1
        have hl6' := heap_lt HS6.out.b1
        have hlt6 := heap_lt HT6'.out
        cases prb with
        | err er po =>
          obtain ⟨hg7, rfl, he0, a', hrd7⟩ := hpt
          have HE0 := Lib.hid he0
          have hne0 : (er != 0) = true := by simpa using he0
          have HS7 := Lib.hid (HS6.out.step hrd7 hg7)
          have HF3 : Hid (fin = .err er po) := Lib.hid HF2.out
          have hgs7 := hg7.size
          clear hrd7 hg7 he0
          obtain ⟨hf1, hb8⟩ := two_at w7 pt0 #[.int .i64 er, .int .i64 po] 35
          have HS8 := Lib.hid (HS7.out.below hb8)
          obtain ⟨W8, hW8⟩ : ∃ W8, W8 = (w7.alloc pt0).alloc (.cells #[.int .i64 er, .int .i64 po] 35) := ⟨_, rfl⟩
          rw [← hW8] at hf1 HS8
          obtain ⟨p8, hp8⟩ : ∃ p8, p8 = w7.heap.size := ⟨_, rfl⟩
          rw [← hp8] at hf1
          have HY := Lib.hid hf1
          have hl7 := heap_lt HS7.out.b1
          clear hb8 hf1
          go_upto_region 11 with fail
          rw [← hW8, ← hp8]
          have hp8w : w.heap.size + 2 ≤ p8 := by omega
          clear hW8 hp8
          obtain ⟨q0, q1⟩ := row2 HY.out
          obtain ⟨x0, x1, x2, x3, x4⟩ := row5 HS8.out.b0
          obtain ⟨y0, y1⟩ := row2 HS8.out.b1
          have f0 := frozen_of HS8.out.b0 0
          have f1 := frozen_of HS8.out.b0 1
          have f2 := frozen_of HS8.out.b0 2
          have f3 := frozen_of HS8.out.b0 3
          have f4 := frozen_of HS8.out.b0 4
          have g0 := frozen_of HS8.out.b1 0
          have g1 := frozen_of HS8.out.b1 1
          have n0 : ¬ w.heap.size = (p8 + 1) := by omega
          have n1 : ¬ w.heap.size + 1 = (p8 + 1) := by omega
          have n2 : ¬ (p8 + 1) = w.heap.size := by omega
          have n3 : ¬ (p8 + 1) = w.heap.size + 1 := by omega
          go_upto_region 12 with fail
          go_wp2_with fail
          go_region
          go_wp2_with fail
          have hF := (HS8.out.put (.int .i64 0) (.int .i64 0) (.string ⟨#[]⟩) (.slice none 0 0) (.int .i64 0) (.int .i64 er) (.int .i64 po)).below (drew_below _)
          change bodyPost _ _ _ _ _ (World.drew (stPF w.heap.size W8 (.int .i64 0) (.int .i64 0) (.string ⟨#[]⟩) (.slice none 0 0) (.int .i64 0) (.int .i64 er) (.int .i64 po)))
          generalize World.drew (stPF w.heap.size W8 (.int .i64 0) (.int .i64 0) (.string ⟨#[]⟩) (.slice none 0 0) (.int .i64 0) (.int .i64 er) (.int .i64 po)) = Wf at hF ⊢
          obtain ⟨r0, r1, r2, r3, r4⟩ := row5 hF.b0
          obtain ⟨s0, s1⟩ := row2 hF.b1
          exact bodyPost_ret (v := .tuple #[.agg #[.int .i64 0, .int .i64 0, .string ⟨#[]⟩, .slice none 0 0, .int .i64 0], fV er po]) (by simp [results, Tryd.results64, go_sem, r0, r1, r2, r3, r4, s0, s1]) rfl ⟨hF.gb, by rw [HF3.out]; exact ⟨rfl, HE0.out, _, hF.rd⟩⟩
        | ok e d a2 =>
          obtain ⟨hg7, K, N, S, A', L', C', rfl, hi7, hrd7⟩ := hpt
          obtain ⟨rfl, rfl, kk, nn, ss, rfl, hpe⟩ := bareP_ok HPB.out.symm
          obtain ⟨rfl, rfl, rfl, rfl, hnb, hcm⟩ := leaf_open hi7
          have HS7 := Lib.hid (HS6.out.step hrd7 hg7)
          have HF3 : Hid (fin = askP l k m (qs.map Qk.e ++ [.mk K N S []]) ⟨#[44]⟩ (a1 + 1 + 1)) := Lib.hid HF2.out
          have HMQ : Hid ((-9223372036854775808 ≤ N ∧ N ≤ 9223372036854775807) ∧ C' ≤ maxLen) := Lib.hid ⟨hnb, hcm⟩
          have hgs7 := hg7.size
          have ho7 := own_gb HO6.out hg7 (by omega)
          have ht7 := (hg7.block _ hlt6 (fun e => by have := Option.some.inj e; omega)).trans HT6'.out
          clear hrd7 hg7 hi7 hnb hcm hpe
          obtain ⟨hf1, hb8⟩ := two_at w7 (.cells #[.int .i64 K, .int .i64 N, .string S, .slice A' 0 C', .int .i64 1] 59) #[.int .i64 0, .int .i64 0] 35
          have hp1 := (Below.heap_alloc (w7.alloc (.cells #[.int .i64 K, .int .i64 N, .string S, .slice A' 0 C', .int .i64 1] 59)) (.cells #[.int .i64 0, .int .i64 0] 35) _ (by simp)).trans (heap_new w7 (.cells #[.int .i64 K, .int .i64 N, .string S, .slice A' 0 C', .int .i64 1] 59))
          have HS8 := Lib.hid (HS7.out.below hb8)
          have ho8 := own_gb ho7 (gb_below hb8 (some R)) (by omega)
          have ht8 := (hb8.block _ (by omega)).trans ht7
          have hl7 := heap_lt HS7.out.b1
          obtain ⟨W8, hW8⟩ : ∃ W8, W8 = (w7.alloc (.cells #[.int .i64 K, .int .i64 N, .string S, .slice A' 0 C', .int .i64 1] 59)).alloc (.cells #[.int .i64 0, .int .i64 0] 35) := ⟨_, rfl⟩
          rw [← hW8] at hf1 hp1 HS8 ho8 ht8
          obtain ⟨p8, hp8⟩ : ∃ p8, p8 = w7.heap.size := ⟨_, rfl⟩
          have h86 : g6 < p8 := by omega
          rw [← hp8] at hf1 hp1
          obtain ⟨q0, q1⟩ := row2 hf1
          obtain ⟨p0, p1, p2, p3, p4⟩ := row5 hp1
          have hb9 := boxed W8 (.cells #[.int .i64 K, .int .i64 N, .string S, .slice A' 0 C', .int .i64 1] 59)
          have HOA : Hid ((W8.alloc (.cells #[.int .i64 K, .int .i64 N, .string S, .slice A' 0 C', .int .i64 1] 59)).ownsRow (g6 + 1) 59 5 (.slice VA qs.length vc) qs.length (qcells qs)) := Lib.hid (ho8.alloc _)
          have HS9 := Lib.hid (HS8.out.below hb9)
          have HT9 := Lib.hid ((hb9.block _ (heap_lt ht8)).trans ht8)
          have hs8 : g6 + 1 ≤ W8.heap.size := by have := heap_lt ht8; omega
          have HBO : Hid (∀ q, (Value.slice VA qs.length vc).ownBlock = some q → g6 + 1 ≤ q) := Lib.hid (fun q e => (ho8.lt q e).1)
          clear hf1 hp1 hb8 hb9 ho7 ho8 ht7 ht8
          go_upto_region 11 with fail
          rw [← hW8, ← hp8]
          clear hW8 hp8
          go_wp2_with (at_builtin; refine wpList_append_own _ rfl (.tmp 49) (.tmp 51) 103 rfl (g6 + 1) 59 i0 (.agg #[.int .i64 0, .int .i64 0, .string ⟨#[]⟩, .slice none 0 0, .int .i64 0]) 5 64 Tryd.underlying103 hi hz0 hz1 hz2 rfl (by decide) _ _ _ rfl HOA.out ⟨W8.heap.size, 0, none⟩ 1 1 (Qk.cells ⟨K, N, S, A', C'⟩) rfl rfl (new5 _ _ _ _ _ _ _ _ rfl) (ones5 _) (by unfold maxLen; omega) (by omega) (by simp; omega) ?_; intro v' w' hown' hgrow' hiff; clear hiff; have HO' := Lib.hid hown'; have HG' := Lib.hid hgrow'; clear hown' hgrow')
          go_roundg m
          case rel => exact Lib.hid ⟨(HG'.out.block _ (heap_lt HT9.out) (fun e => by have := HBO.out _ e.symm; omega)).trans HT9.out, hg6w, a1 + 1 + 1, qs ++ [⟨K, N, S, A', C'⟩], ⟨#[44]⟩, rfl, by rw [List.length_append]; simp; omega, HS9.out.grown (fun q e => by have := HBO.out _ e; omega) HG'.out, by rw [List.length_append, qcells_snoc]; exact HO'.out, fun q hq => by
            rcases List.mem_append.1 hq with hq | hq
            · exact HMAY.out q hq
            · simp at hq
              subst hq
              exact HMQ.out, by omega, by rw [HF3.out, List.map_append]; rfl⟩
          case measure => omega
end Go.Proofs.YtdehpgdffafebaaDoor
namespace Go.Proofs.YtdehpgdffafebaaDoor
open Go.RowKit
set_option linter.unusedVariables false

theorem parse_all (l : List Gt) (hl : l.length ≤ 4611686018427387902)
    (hNi : ∀ R B A c a r w, RdAll R B l A c a r w → a ≤ l.length → Calls Tryd.prog 64 #[pR R, .int .i64 13] w (PtP R B l A c r w (nilP l a)))
    (hSa : ∀ R B A c a r w, RdAll R B l A c a r w → a ≤ l.length → Calls Tryd.prog 64 #[pR R, .int .i64 14] w (PtP R B l A c r w (sameP l a)))
    (A : Option Addr) (c : Nat) (w : World) (hT : RT w w.heap.size A l) (hlc : l.length ≤ c) (hcm : c ≤ maxLen) (hS : SignsIn w) (hP : PlainsIn w) :
    Calls Tryd.prog 16 #[.slice A l.length c, .int .i64 0] w (PaP w (parseP l)) := by
  have h1 : 0 < w.heap.size := by
    obtain ⟨tt, fr, h0⟩ := hS
    exact heap_lt h0
  have h2 : 1 < w.heap.size := by
    obtain ⟨tt, fr, h0⟩ := hP
    exact heap_lt h0
  exact parse_any (parseP l) (fun e d a' h => by have := ((all_ok l (12 * l.length + 12)).1 1 0 0 e d a' h).2.1; omega) l A c w hT hlc hcm
    (fun R W hR hb hrd => (bound_all l hl hNi hSa (12 * l.length + 12)).1 1 0 0 R w.heap.size A c W (by omega) (by omega) (by omega) (by omega) (by omega) ⟨hrd, hS.below hb, hP.below hb, by omega, by omega⟩)
end Go.Proofs.YtdehpgdffafebaaDoor
namespace Go.Proofs.YtdehpgdffafebaaDoor
open Go.RowKit
set_option linter.unusedVariables false

theorem parse_any' (l : List Gt) (hl : l.length ≤ 4611686018427387902) (A : Option Addr) (c : Nat) (w : World) (hT : RT w w.heap.size A l) (hlc : l.length ≤ c) (hcm : c ≤ maxLen) (hS : SignsIn w) (hP : PlainsIn w) :
    Calls Tryd.prog 16 #[.slice A l.length c, .int .i64 0] w (PaP w (parseP l)) :=
  parse_all l hl (fun R B A c a r w h ha => by rw [nilP_ask]; exact asked_any 13 1 (by decide) (by decide) (by decide) l hl R B A c a r w h ha)
    (fun R B A c a r w h ha => by rw [sameP_ask]; exact asked_any 14 2 (by decide) (by decide) (by decide) l hl R B A c a r w h ha) A c w hT hlc hcm hS hP
end Go.Proofs.YtdehpgdffafebaaDoor
namespace Go.Proofs.YtdehpgdffafebaaDoor
open Go.RowKit
set_option linter.unusedVariables false

theorem ex_text : textB exE = ⟨#[97, 32, 43, 32, 98, 32, 42, 32, 40, 99, 32, 45, 32, 100, 41, 32, 45, 32, 49]⟩ := by kernel_rfl
theorem ex_open {P : Nat → Prop} {W : World} {v : Value} (h : InP P W exE v) : ∃ b o c, v = .agg #[.int .i64 7, .int .i64 0, .string ⟨#[]⟩, .slice (some ⟨b, o, none⟩) 2 c] ∧ 2 ≤ c ∧ P b ∧ W.cell? ⟨b, o + 4 + 1, none⟩ = some (.int .i64 1) := by
  unfold exE at h
  rw [InP] at h
  obtain ⟨A, c, rfl, _, hc, _, h5⟩ := h
  obtain ⟨b, o, rfl, hP, hq⟩ := h5 (by simp)
  rw [InQ, InQ] at hq
  obtain ⟨_, ⟨c0, c1, c2, c3, h0, h1, h2, h3, hv⟩, _⟩ := hq
  rw [InP] at hv
  obtain ⟨A', c', hv, _⟩ := hv
  have : c1 = .int .i64 1 := by
    have := congrArg (fun v => match v with | .agg a => a[1]? | _ => none) hv
    simpa using this
  subst this
  exact ⟨b, o, c, rfl, hc, hP, h1⟩

set_option maxRecDepth 100000 in
set_option maxHeartbeats 4000000 in
theorem awake_any (w : World) (hL : Laid w) : Calls Tryd.prog 6 #[] w fun e w' => e = .returned (.bool true) ∧ Below w.heap.size w w' := by
  have HL := Lib.hid hL
  have HPA : Hid (∀ (g c : Nat) (W : World), RT W W.heap.size (some ⟨g, 0, none⟩) (exL.map Gt.ofTok) → 13 ≤ c → c ≤ maxLen → Laid W → Calls Tryd.prog 16 #[.slice (some ⟨g, 0, none⟩) 13 c, .int .i64 0] W (PaP W (.ok exE 5 11))) := Lib.hid (fun g c W hr h1 h2 hl => by
    have := parse_any' (exL.map Gt.ofTok) (by decide) (some ⟨g, 0, none⟩) c W hr h1 h2 hl.signs hl.plains
    rw [show parseP (exL.map Gt.ofTok) = .ok exE 5 11 from ex_parse] at this
    exact this)
  have HTX : Hid (∀ (v : Value) (W : World), InV W.heap.size W exE v → Laid W → Calls Tryd.prog 11 #[v] W fun x w' => x = .returned (.string ⟨#[97, 32, 43, 32, 98, 32, 42, 32, 40, 99, 32, 45, 32, 100, 41, 32, 45, 32, 49]⟩) ∧ Below W.heap.size W w') := Lib.hid (fun v W hv hl => by
    have := textTells_any exE v W (by decide) hv hl
    rwa [ex_text] at this)
  clear hL
  go_enter Tryd.func6, Tryd.ntmps6
  go_wp2_with fail
  refine (refOf_any exB (by decide) _).mono ?_
  rintro e w1 hp1
  obtain ⟨g1, c1, rfl, hg1, hl1, hc1, hm1, hcell1, hb1⟩ := of_ok hp1 ex_ok
  have hrt1 := rt_of hcell1 hl1
  have hb2 := boxed w1 (.cells #[.int .i64 0, .int .i64 0] 35)
  obtain ⟨W2, hW2⟩ : ∃ W, W = w1.alloc (.cells #[.int .i64 0, .int .i64 0] 35) := ⟨_, rfl⟩
  rw [show exL.length = 13 from rfl]
  have HC1 : Hid (13 ≤ c1 ∧ c1 ≤ maxLen) := Lib.hid ⟨hc1, hm1⟩
  go_upto_region 2 with fail
  rw [← hW2] at hb2 ⊢
  clear hW2 hp1 hcell1
  have HB2 := Lib.hid (hb1.trans (hb2.mono hb1.size))
  have HK2 := Lib.hid (HPA.out g1 c1 W2 ((hrt1.below hb2).more hb2.size) HC1.out.1 HC1.out.2 (HL.out.below HB2.out))
  clear hrt1 hb1 hb2
  go_wp2_with fail
  refine HK2.out.mono ?_
  rintro e w3 ⟨hb3, k, n, s, A', L', c', rfl, hi3⟩
  obtain ⟨b, o, c, hv, hc, hP, hcell⟩ := ex_open hi3
  cases hv
  have HB3 := Lib.hid (HB2.out.trans (hb3.mono HB2.out.size))
  have hb4 : Below w3.heap.size w3 ((w3.alloc (.cells #[.int .i64 7, .int .i64 0, .string ⟨#[]⟩, .slice (some ⟨b, o, none⟩) 2 c'] tE)).alloc (.cells #[.int .i64 0, .int .i64 0] 35)) := ((Below.refl _ w3).alloc (Nat.le_refl _) _).alloc (by simp only [World.size_alloc]; omega) _
  have h0 := (Below.heap_alloc (w3.alloc (.cells #[.int .i64 7, .int .i64 0, .string ⟨#[]⟩, .slice (some ⟨b, o, none⟩) 2 c'] tE)) (.cells #[.int .i64 0, .int .i64 0] 35) w3.heap.size (by simp only [World.size_alloc]; omega)).trans (heap_new w3 (.cells #[.int .i64 7, .int .i64 0, .string ⟨#[]⟩, .slice (some ⟨b, o, none⟩) 2 c'] tE))
  have h1 := heap_new (w3.alloc (.cells #[.int .i64 7, .int .i64 0, .string ⟨#[]⟩, .slice (some ⟨b, o, none⟩) 2 c'] tE)) (.cells #[.int .i64 0, .int .i64 0] 35)
  simp only [World.size_alloc] at h1
  obtain ⟨W4, hW4⟩ : ∃ W, W = (w3.alloc (.cells #[.int .i64 7, .int .i64 0, .string ⟨#[]⟩, .slice (some ⟨b, o, none⟩) 2 c'] tE)).alloc (.cells #[.int .i64 0, .int .i64 0] 35) := ⟨_, rfl⟩
  rw [← hW4] at hb4 h0 h1
  have hcell4 := (hb4.cell (p := ⟨b, o + 4 + 1, none⟩) hP.2).trans hcell
  have HB4 := Lib.hid (HB3.out.trans (hb4.mono HB3.out.size))
  have HT4 := Lib.hid (HTX.out _ W4 (((hi3.inV (B := w3.heap.size) (fun b h => h.2)).below hb4).more hb4.size) (HL.out.below HB4.out))
  obtain ⟨z0, z1, z2, z3⟩ := row4 h0
  obtain ⟨y0, y1⟩ := row2 h1
  clear hb4 h0 h1 hb3 hi3 hcell
  go_upto_region 3 with fail
  rw [← hW4]
  clear hW4
  go_wp2_with fail
  refine HT4.out.mono ?_
  rintro x w5 ⟨rfl, hb5⟩
  have HB5 := Lib.hid (HB4.out.trans (hb5.mono HB4.out.size))
  clear z0 z1 z2 z3 y0 y1 hcell4
  go_wp2_with fail
  go_ret
  exact ⟨rfl, HB5.out⟩
end Go.Proofs.YtdehpgdffafebaaDoor
