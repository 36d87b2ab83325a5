/- What is read as the owner ahead of a class, by the program. Conditions: at most 1000 parameters, and at most 1000000 tokens. -/
import Derived.Test.YtbcgooofelnkoaaOs
namespace Go.Proofs.Ytbcgooofelnkoaa
open Go.RowKit
set_option linter.unusedVariables false

/-- What is read as the owner ahead of a class. -/
def firstP (l : List Gt) (ps : List ByteArray) (a : Int) (f : Bool) : Rz Ow :=
  if (tokI l a).kind = 1 ∧ aheadP l a f = false then .ok ⟨7, 0⟩ a else if (tokI l a).is wUnique = true then .ok ⟨6, 0⟩ (a + 1) else ownP l ps a

set_option maxRecDepth 100000 in
set_option maxHeartbeats 4000000 in
theorem first_any (R B : Nat) (l : List Gt) (A : Option Addr) (c : Nat) (PA : Option Addr) (ps : List ByteArray) (pc : Nat) (a : Int) (f : Bool) (w : World) (h : An R B l A c PA ps pc a w) (hlp : ps.length ≤ 1000) (hpc : ps.length ≤ pc) (hbd : l.length ≤ 1000000) :
    Calls Try.prog 48 #[pR R, .bool f] w (RzP R B l A c PA ps pc owZ owV (firstP l ps a f) w) := by
  have hfr := Fr.new h 33 28 [.int .i64 0, .int .i64 0] [.int .i64 0, .int .i64 0]
  have hRw := hfr.hR
  obtain ⟨W0, hW0⟩ : ∃ W0, W0 = (w.alloc (.cells #[.int .i64 0, .int .i64 0] 33)).alloc (.cells #[.int .i64 0, .int .i64 0] 28) := ⟨_, rfl⟩
  rw [← hW0] at hfr
  have HF := Lib.hid hfr
  have HTK := Lib.hid (token_any R B l A c _ _ a W0 hfr.an.cu)
  have HSK : Hid (∀ W, Cu R B l A c #[.slice PA ps.length pc] 62 a W → Calls Try.prog 39 #[pR R, .string ⟨#[117, 110, 105, 113, 117, 101]⟩] W (CuP R B l A c #[.slice PA ps.length pc] 62 W (.bool ((tokI l a).is wUnique)) (if (tokI l a).is wUnique = true then a + 1 else a))) := Lib.hid (fun W hW => skip_tok R B l A c _ _ a _ W hW)
  have HOF : Hid ((tokI l a).kind = 1 → ∀ W, Cu R B l A c #[.slice PA ps.length pc] 62 a W → Calls Try.prog 52 #[pR R, .bool f] W fun x w' => x = .returned (.bool (aheadP l a f)) ∧ Below W.heap.size W w') := Lib.hid (fun h1 W hW => by
    have hin := tokI_in (l := l) (a := a) (by omega)
    exact ownerFirst_any R B l A c _ _ a f W hW hbd hin.1 hin.2)
  have HOW : Hid (∀ W, An R B l A c PA ps pc a W → Calls Try.prog 43 #[pR R] W (RzP R B l A c PA ps pc owZ owV (ownP l ps a) W)) := Lib.hid (fun W hW => owner_any R B l A c PA ps pc a W hW hlp hpc)
  obtain ⟨rr, hrr⟩ : ∃ rr, rr = ownP l ps a := ⟨_, rfl⟩
  obtain ⟨res, hres⟩ : ∃ res, res = firstP l ps a f := ⟨_, rfl⟩
  have HRES : Hid (res = if (tokI l a).kind = 1 ∧ aheadP l a f = false then .ok ⟨7, 0⟩ a else if (tokI l a).is wUnique = true then .ok ⟨6, 0⟩ (a + 1) else rr) := Lib.hid (by rw [hres, hrr]; rfl)
  rw [← hrr] at HOW
  rw [← hres]
  obtain ⟨g, hg⟩ : ∃ g, g = aheadP l a f := ⟨_, rfl⟩
  rw [← hg] at HRES HOF
  obtain ⟨t, ht⟩ : ∃ t, t = tokI l a := ⟨_, rfl⟩
  rw [← ht] at HTK HSK HRES HOF
  obtain ⟨b, hb⟩ : ∃ b, b = t.is wUnique := ⟨_, rfl⟩
  rw [← hb] at HSK HRES
  obtain ⟨tk, tx, tp⟩ := t
  rw [val_eq] at HTK
  dsimp only at HTK HRES HOF
  clear ht hg hb hrr hres h hfr
  by_cases hk : tk = 1
  · subst hk
    cases g with
    | false =>
      have HR : Hid (res = .ok ⟨7, 0⟩ a) := Lib.hid (by rw [HRES.out, if_pos ⟨rfl, rfl⟩])
      clear HRES
      have hfd := tok_field0 1 tp tx
      go_enter Try.func48, Try.ntmps48
      go_upto_region 1 with fail
      rw [← hW0]
      clear hW0
      go_wp2_with fail
      refine HTK.out.mono ?_
      rintro e w1 ⟨rfl, hb1⟩
      have HF1 := Lib.hid (HF.out.step hb1)
      clear hb1
      go_wp2_with fail
      refine (HOF.out (by first | trivial | rfl) _ HF1.out.an.cu).mono ?_
      rintro e w2 ⟨rfl, hb2⟩
      have HF2 := Lib.hid (HF1.out.step hb2)
      clear hb2
      have hth0 := there_row (n := 2) HF2.out.b0 rfl
      have hth1 := there_row (n := 2) HF2.out.b1 rfl
      go_wp2_with (first | (refine wpList_store_mid rfl 33 _ _ rfl w.heap.size 0 #[.int .i64 (7), .int .i64 (0)] rfl rfl hth0 (by kernel_rfl) (one2 _ _) ?_) | (refine wpList_store_mid rfl 28 _ _ rfl (w.heap.size + 1) 0 #[.int .i64 (0), .int .i64 (0)] rfl rfl (World.there_setCells hth1 _ _ _) (by kernel_rfl) (one2 _ _) ?_))
      have hF := (HF2.out.put0 [.int .i64 (7), .int .i64 (0)] rfl).put1 [.int .i64 (0), .int .i64 (0)] rfl
      exact bodyPost_ret (v := .tuple #[.agg [.int .i64 (7), .int .i64 (0)].toArray, .agg [.int .i64 (0), .int .i64 (0)].toArray]) (results_two Try.results48 _ _ w.heap.size (w.heap.size + 1) 33 28 _ _ _ _ rfl rfl hF.b0 hF.b1 Try.underlying33 rfl (by kernel_rfl) Try.underlying28 rfl (by kernel_rfl)) rfl ⟨hF.gb, by rw [HR.out]; exact ⟨rfl, hF.an⟩⟩
    | true =>
      have HR : Hid (res = if b = true then .ok ⟨6, 0⟩ (a + 1) else rr) := Lib.hid (by rw [HRES.out, if_neg (by simp)])
      clear HRES
      have hfd := tok_field0 1 tp tx
      go_enter Try.func48, Try.ntmps48
      go_upto_region 1 with fail
      rw [← hW0]
      clear hW0
      go_wp2_with fail
      refine HTK.out.mono ?_
      rintro e w1 ⟨rfl, hb1⟩
      have HF1 := Lib.hid (HF.out.step hb1)
      clear hb1
      go_wp2_with fail
      refine (HOF.out (by first | trivial | rfl) _ HF1.out.an.cu).mono ?_
      rintro e w2 ⟨rfl, hb2⟩
      have HF2 := Lib.hid (HF1.out.step hb2)
      clear hb2
      go_wp2_with fail
      refine (HSK.out _ HF2.out.an.cu).mono ?_
      rintro e w3 ⟨rfl, hc3, hg3⟩
      cases b with
      | true =>
        have HR3 : Hid (res = .ok ⟨6, 0⟩ (a + 1)) := HR
        have hc3 : Cu R B l A c #[.slice PA ps.length pc] 62 (a + 1) w3 := hc3
        have HF3 := Lib.hid (HF2.out.turn (HF2.out.an.turn hc3 hg3) hg3)
        clear hc3 hg3
        have hth0 := there_row (n := 2) HF3.out.b0 rfl
        have hth1 := there_row (n := 2) HF3.out.b1 rfl
        go_wp2_with (first | (refine wpList_store_mid rfl 33 _ _ rfl w.heap.size 0 #[.int .i64 (6), .int .i64 (0)] rfl rfl hth0 (by kernel_rfl) (one2 _ _) ?_) | (refine wpList_store_mid rfl 28 _ _ rfl (w.heap.size + 1) 0 #[.int .i64 (0), .int .i64 (0)] rfl rfl (World.there_setCells hth1 _ _ _) (by kernel_rfl) (one2 _ _) ?_))
        have hF := (HF3.out.put0 [.int .i64 (6), .int .i64 (0)] rfl).put1 [.int .i64 (0), .int .i64 (0)] rfl
        exact bodyPost_ret (v := .tuple #[.agg [.int .i64 (6), .int .i64 (0)].toArray, .agg [.int .i64 (0), .int .i64 (0)].toArray]) (results_two Try.results48 _ _ w.heap.size (w.heap.size + 1) 33 28 _ _ _ _ rfl rfl hF.b0 hF.b1 Try.underlying33 rfl (by kernel_rfl) Try.underlying28 rfl (by kernel_rfl)) rfl ⟨hF.gb, by rw [HR3.out]; exact ⟨rfl, hF.an⟩⟩
      | false =>
        have HR3 : Hid (res = rr) := HR
        have hc3 : Cu R B l A c #[.slice PA ps.length pc] 62 a w3 := hc3
        have HF3 := Lib.hid (HF2.out.turn (HF2.out.an.turn hc3 hg3) hg3)
        clear hc3 hg3
        go_wp2_with fail
        refine (HOW.out _ HF3.out.an).mono ?_
        rintro e w4 hpost
        cases rr with
        | err er po =>
          obtain ⟨rfl, he, a5, ha5, hg5⟩ := rzP_err hpost rfl
          have HHE := Lib.hid he
          have HF5 := Lib.hid (HF3.out.turn ha5 hg5)
          clear hpost he ha5 hg5
          have hth0 := there_row (n := 2) HF5.out.b0 rfl
          have hth1 := there_row (n := 2) HF5.out.b1 rfl
          go_wp2_with (first | (refine wpList_store_mid rfl 33 _ _ rfl w.heap.size 0 #[.int .i64 (0), .int .i64 (0)] rfl rfl hth0 (by kernel_rfl) (one2 _ _) ?_) | (refine wpList_store_mid rfl 28 _ _ rfl (w.heap.size + 1) 0 #[.int .i64 (er), .int .i64 (po)] rfl rfl (World.there_setCells hth1 _ _ _) (by kernel_rfl) (one2 _ _) ?_))
          have hF := (HF5.out.put0 [.int .i64 (0), .int .i64 (0)] rfl).put1 [.int .i64 (er), .int .i64 (po)] rfl
          exact bodyPost_ret (v := .tuple #[.agg [.int .i64 (0), .int .i64 (0)].toArray, .agg [.int .i64 (er), .int .i64 (po)].toArray]) (results_two Try.results48 _ _ w.heap.size (w.heap.size + 1) 33 28 _ _ _ _ rfl rfl hF.b0 hF.b1 Try.underlying33 rfl (by kernel_rfl) Try.underlying28 rfl (by kernel_rfl)) rfl ⟨hF.gb, by rw [HR3.out]; exact ⟨rfl, HHE.out, _, hF.an⟩⟩
        | ok o ao =>
          obtain ⟨rfl, ha5, hg5⟩ := rzP_ok hpost rfl
          have HF5 := Lib.hid (HF3.out.turn ha5 hg5)
          clear hpost ha5 hg5
          have hth0 := there_row (n := 2) HF5.out.b0 rfl
          have hth1 := there_row (n := 2) HF5.out.b1 rfl
          go_wp2_with (first | (refine wpList_store_mid rfl 33 _ _ rfl w.heap.size 0 #[.int .i64 (o.kind), .int .i64 (o.n)] rfl rfl hth0 (by kernel_rfl) (one2 _ _) ?_) | (refine wpList_store_mid rfl 28 _ _ rfl (w.heap.size + 1) 0 #[.int .i64 (0), .int .i64 (0)] rfl rfl (World.there_setCells hth1 _ _ _) (by kernel_rfl) (one2 _ _) ?_))
          have hF := (HF5.out.put0 [.int .i64 (o.kind), .int .i64 (o.n)] rfl).put1 [.int .i64 (0), .int .i64 (0)] rfl
          exact bodyPost_ret (v := .tuple #[.agg [.int .i64 (o.kind), .int .i64 (o.n)].toArray, .agg [.int .i64 (0), .int .i64 (0)].toArray]) (results_two Try.results48 _ _ w.heap.size (w.heap.size + 1) 33 28 _ _ _ _ rfl rfl hF.b0 hF.b1 Try.underlying33 rfl (by kernel_rfl) Try.underlying28 rfl (by kernel_rfl)) rfl ⟨hF.gb, by rw [HR3.out]; exact ⟨rfl, hF.an⟩⟩
  · have HR : Hid (res = if b = true then .ok ⟨6, 0⟩ (a + 1) else rr) := Lib.hid (by rw [HRES.out, if_neg (by simp [hk])])
    have hk0 : (tk == 1) = false := by simpa using hk
    clear HRES HOF hk
    have hfd := tok_field0 tk tp tx
    go_enter Try.func48, Try.ntmps48
    go_upto_region 1 with fail
    rw [← hW0]
    clear hW0
    go_wp2_with fail
    refine HTK.out.mono ?_
    rintro e w1 ⟨rfl, hb1⟩
    have HF1 := Lib.hid (HF.out.step hb1)
    clear hb1
    go_wp2_with fail
    refine (HSK.out _ HF1.out.an.cu).mono ?_
    rintro e w3 ⟨rfl, hc3, hg3⟩
    cases b with
    | true =>
      have HR3 : Hid (res = .ok ⟨6, 0⟩ (a + 1)) := HR
      have hc3 : Cu R B l A c #[.slice PA ps.length pc] 62 (a + 1) w3 := hc3
      have HF3 := Lib.hid (HF1.out.turn (HF1.out.an.turn hc3 hg3) hg3)
      clear hc3 hg3
      have hth0 := there_row (n := 2) HF3.out.b0 rfl
      have hth1 := there_row (n := 2) HF3.out.b1 rfl
      go_wp2_with (first | (refine wpList_store_mid rfl 33 _ _ rfl w.heap.size 0 #[.int .i64 (6), .int .i64 (0)] rfl rfl hth0 (by kernel_rfl) (one2 _ _) ?_) | (refine wpList_store_mid rfl 28 _ _ rfl (w.heap.size + 1) 0 #[.int .i64 (0), .int .i64 (0)] rfl rfl (World.there_setCells hth1 _ _ _) (by kernel_rfl) (one2 _ _) ?_))
      have hF := (HF3.out.put0 [.int .i64 (6), .int .i64 (0)] rfl).put1 [.int .i64 (0), .int .i64 (0)] rfl
      exact bodyPost_ret (v := .tuple #[.agg [.int .i64 (6), .int .i64 (0)].toArray, .agg [.int .i64 (0), .int .i64 (0)].toArray]) (results_two Try.results48 _ _ w.heap.size (w.heap.size + 1) 33 28 _ _ _ _ rfl rfl hF.b0 hF.b1 Try.underlying33 rfl (by kernel_rfl) Try.underlying28 rfl (by kernel_rfl)) rfl ⟨hF.gb, by rw [HR3.out]; exact ⟨rfl, hF.an⟩⟩
    | false =>
      have HR3 : Hid (res = rr) := HR
      have hc3 : Cu R B l A c #[.slice PA ps.length pc] 62 a w3 := hc3
      have HF3 := Lib.hid (HF1.out.turn (HF1.out.an.turn hc3 hg3) hg3)
      clear hc3 hg3
      go_wp2_with fail
      refine (HOW.out _ HF3.out.an).mono ?_
      rintro e w4 hpost
      cases rr with
      | err er po =>
        obtain ⟨rfl, he, a5, ha5, hg5⟩ := rzP_err hpost rfl
        have HHE := Lib.hid he
        have HF5 := Lib.hid (HF3.out.turn ha5 hg5)
        clear hpost he ha5 hg5
        have hth0 := there_row (n := 2) HF5.out.b0 rfl
        have hth1 := there_row (n := 2) HF5.out.b1 rfl
        go_wp2_with (first | (refine wpList_store_mid rfl 33 _ _ rfl w.heap.size 0 #[.int .i64 (0), .int .i64 (0)] rfl rfl hth0 (by kernel_rfl) (one2 _ _) ?_) | (refine wpList_store_mid rfl 28 _ _ rfl (w.heap.size + 1) 0 #[.int .i64 (er), .int .i64 (po)] rfl rfl (World.there_setCells hth1 _ _ _) (by kernel_rfl) (one2 _ _) ?_))
        have hF := (HF5.out.put0 [.int .i64 (0), .int .i64 (0)] rfl).put1 [.int .i64 (er), .int .i64 (po)] rfl
        exact bodyPost_ret (v := .tuple #[.agg [.int .i64 (0), .int .i64 (0)].toArray, .agg [.int .i64 (er), .int .i64 (po)].toArray]) (results_two Try.results48 _ _ w.heap.size (w.heap.size + 1) 33 28 _ _ _ _ rfl rfl hF.b0 hF.b1 Try.underlying33 rfl (by kernel_rfl) Try.underlying28 rfl (by kernel_rfl)) rfl ⟨hF.gb, by rw [HR3.out]; exact ⟨rfl, HHE.out, _, hF.an⟩⟩
      | ok o ao =>
        obtain ⟨rfl, ha5, hg5⟩ := rzP_ok hpost rfl
        have HF5 := Lib.hid (HF3.out.turn ha5 hg5)
        clear hpost ha5 hg5
        have hth0 := there_row (n := 2) HF5.out.b0 rfl
        have hth1 := there_row (n := 2) HF5.out.b1 rfl
        go_wp2_with (first | (refine wpList_store_mid rfl 33 _ _ rfl w.heap.size 0 #[.int .i64 (o.kind), .int .i64 (o.n)] rfl rfl hth0 (by kernel_rfl) (one2 _ _) ?_) | (refine wpList_store_mid rfl 28 _ _ rfl (w.heap.size + 1) 0 #[.int .i64 (0), .int .i64 (0)] rfl rfl (World.there_setCells hth1 _ _ _) (by kernel_rfl) (one2 _ _) ?_))
        have hF := (HF5.out.put0 [.int .i64 (o.kind), .int .i64 (o.n)] rfl).put1 [.int .i64 (0), .int .i64 (0)] rfl
        exact bodyPost_ret (v := .tuple #[.agg [.int .i64 (o.kind), .int .i64 (o.n)].toArray, .agg [.int .i64 (0), .int .i64 (0)].toArray]) (results_two Try.results48 _ _ w.heap.size (w.heap.size + 1) 33 28 _ _ _ _ rfl rfl hF.b0 hF.b1 Try.underlying33 rfl (by kernel_rfl) Try.underlying28 rfl (by kernel_rfl)) rfl ⟨hF.gb, by rw [HR3.out]; exact ⟨rfl, hF.an⟩⟩
end Go.Proofs.Ytbcgooofelnkoaa
