/-
  BlockBlanks: blank lines ahead of all, and behind all, change nothing: the law's walk.
-/
import Derived.Test.YtoleoigpijgboaaDoorBkH
import Derived.Test.YtoleoigpijgboaaDoorBkE
import Derived.Test.YtoleoigpijgboaaDoorBkQ
namespace Go.Proofs.YtoleoigpijgboaaDoor
open Go.RowKit
set_option linter.unusedSimpArgs false
set_option linter.unusedVariables false
set_option maxRecDepth 100000

theorem parse_ahead (n : Nat) (l : List (List UInt8)) : parseB (List.replicate n [32] ++ l) = parseB l := allL_blanks 12 _ l (fun s hs => by rw [List.eq_of_mem_replicate hs]; rfl)
/-- A list of the call's own grows by one text, again and again. -/
def GrRel (pre : List (List UInt8)) (t : List UInt8) (n B : Nat) (w1 : World) (v i : Value) (wr : World) : Prop :=
  ∃ k : Nat, i = .int .i64 k ∧ k ≤ n ∧ wr.ownsRow B 9 1 v (pre.length + k) (strs (pre ++ List.replicate k t)) ∧ Below B w1 wr
theorem gr_step (pre : List (List UInt8)) (t : List UInt8) (k : Nat) : strs (pre ++ List.replicate k t) ++ [Value.string ⟨t.toArray⟩] = strs (pre ++ List.replicate (k + 1) t) := by
  rw [List.replicate_succ', ← List.append_assoc, strs_append (pre ++ List.replicate k t)]; rfl
theorem few_mid {n m : Nat} {l : List (List UInt8)} (hn : n ≤ 5) (hm : m ≤ 5) (h : Few l) (hl : l.length ≤ 40) : Few ((List.replicate n [32] ++ l) ++ List.replicate m []) := ⟨by simp; omega, fun x hx => by
  rcases List.mem_append.1 hx with hx | hx
  · rcases List.mem_append.1 hx with hx | hx
    · rw [List.eq_of_mem_replicate hx]; decide
    · exact h.wt x hx
  · rw [List.eq_of_mem_replicate hx]; decide⟩

set_option maxHeartbeats 16000000 in
theorem blockBlanks_short (w : World) (A : Option Addr) (cap : Nat) (ls : List (List UInt8)) (n m : Nat) (hrow : RowOf w A cap (strs ls)) (hz : ∀ x ∈ ls, x.length ≤ 9223372036854775807) (hpl : plainL ls = true) (hn : n ≤ 5) (hm : m ≤ 5) :
    Calls Tryd.prog 5 #[.slice A ls.length cap, .int .i64 n, .int .i64 m] w fun e w' => e = .returned (.bool true) ∧ Below w.heap.size w w' := by
  obtain ⟨i0, hi, hz0, hz1, hz2⟩ := info_parts infoString
  have cpl := plain9_any A cap ls w hrow hz
  rw [hpl] at cpl
  obtain ⟨hf, hl40, _⟩ := plain_few hpl
  have hcl := hrow.strs_le
  have HF := Lib.hid hf
  have HR := Lib.hid hrow
  have hf1 : decide ((n : Int) < 0) = false := by simp <;> omega
  have hf2 : decide ((5 : Int) < (n : Int)) = false := by simp; omega
  have hf3 : decide ((m : Int) < 0) = false := by simp <;> omega
  have hf4 : decide ((5 : Int) < (m : Int)) = false := by simp; omega
  clear hf hrow hz hpl
  go_enter Tryd.func5, Tryd.ntmps5
  go_wp2_with fail
  refine cpl.mono ?_
  rintro e w0 ⟨rfl, hwe⟩
  have hwe := hwe.symm
  subst hwe
  go_wp2_with fail
  refine (alive9_any _).mono ?_
  rintro e w1 ⟨rfl, b1⟩
  have HB1 := Lib.hid b1
  have HR1 := Lib.hid (HR.out.below b1)
  clear b1 cpl
  go_wp2_with fail
  go_loopw [7, 8] (fun v i wr => GrRel [] [32] n w1.heap.size w1 v i wr) (fun _ i _ => n - (intOf i).toNat)
  case atStart => exact ⟨0, rfl, Nat.zero_le _, World.ownsRow_nil _ _ _ _, Below.refl _ _⟩
  case round =>
    obtain ⟨k, rfl, hk, hown, hbw⟩ := hrel
    have hss := hbw.size
    simp only [List.length_nil, Nat.zero_add] at hown
    by_cases hp : k < n
    · have hnw := cells_one wr (.string ⟨#[32]⟩) 9
      have hrow2 := hown.alloc (.cells #[.string ⟨#[32]⟩] 9)
      have HBW := Lib.hid hbw
      go_wp2_with (at_builtin; refine wpList_append_own _ rfl _ _ 22 rfl w1.heap.size 9 i0 (.string ByteArray.empty) 1 16 Tryd.underlying22 hi hz0 hz1 hz2 rfl (by decide) _ _ _ rfl hrow2 ⟨wr.heap.size, 0, none⟩ 1 1 [.string ⟨#[32]⟩] rfl rfl hnw (by simp [Value.oneCell']) (by unfold maxLen; omega) (by omega) (by simp; omega) ?_)
      intro v' w3 hown' hgrow _
      have HO3 := Lib.hid (show w3.ownsRow w1.heap.size 9 1 v' (0 + (k + 1)) (strs ([] ++ List.replicate (k + 1) [32])) from by
        rw [← gr_step, Nat.zero_add]
        exact hown')
      have HB3 := Lib.hid ((HBW.out.alloc (by omega) (.cells #[.string ⟨#[32]⟩] 9)).trans (below_of_grown hgrow (fun g hg => (hrow2.lt g hg).1) (by simp; omega)))
      clear hown' hgrow hrow2 hnw hown hbw
      go_wp2
      go_roundw
      case rel => exact ⟨k + 1, by go_num, by omega, HO3.out, HB3.out⟩
      case measure => simp [intOf]; omega
    · obtain rfl : k = n := by omega
      rw [List.nil_append] at hown
      have hrl := (HR1.out.below hbw)
      have HBW := Lib.hid hbw
      have hrl2 := hrl.strs_le
      go_wp2_with (at_builtin; refine append_row rfl _ _ rfl w1.heap.size _ k (List.replicate k [32]) rfl hown A cap ls rfl hrl (by omega) (by omega) ?_)
      intro v' w3 hown' hgrow
      have HB3 := Lib.hid (HBW.out.trans (below_of_grown hgrow (fun g hg => (hown.lt g hg).1) (by omega)))
      have hs3 := HB3.out.size
      have HO3 := Lib.hid hown'
      clear hown' hgrow hown hrl hbw hrl2
      have ca := bparse_any A cap ls w3 (HR1.out.below HB3.out) HF.out
      go_wp2_with fail
      refine ca.mono ?_
      rintro e w4 ⟨va, rfl, howna, b4⟩
      have HB4 := Lib.hid (HB3.out.trans (b4.mono hs3))
      have HO4 := Lib.hid (ownsRow_below HO3.out b4)
      have HOa := Lib.hid howna
      have hs4 := b4.size
      clear b4 ca howna
      obtain ⟨Aq, cq, hvq, hrq⟩ : ∃ Aq cq, v' = .slice Aq (List.replicate k [32] ++ ls).length cq ∧ RowOf w4 Aq cq (strs (List.replicate k [32] ++ ls)) := by
        have ho := HO4.out
        rw [show k + ls.length = (List.replicate k ([32] : List UInt8) ++ ls).length from by simp] at ho
        obtain ⟨A', c', e, hr, _⟩ := RowOf.own ho
        exact ⟨A', c', e, hr⟩
      subst hvq
      have cb := bparse_any Aq cq (List.replicate k [32] ++ ls) w4 hrq (by have := few_mid hn (Nat.zero_le 5) HF.out hl40; simpa using this)
      rw [parse_ahead] at cb
      have hlq : (List.replicate k ([32] : List UInt8) ++ ls).length = k + ls.length := by simp
      rw [hlq] at cb ⊢
      clear hrq
      go_wp2_with fail
      refine cb.mono ?_
      rintro e w5 ⟨vb, rfl, hownb, b5⟩
      have HB5 := Lib.hid (HB4.out.trans (b5.mono (by have := HB4.out.size; omega)))
      have howna5 := ownsRow_below HOa.out b5
      have HO5 := Lib.hid (ownsRow_below HO4.out b5)
      obtain ⟨Aa, caa, rfl, hata⟩ := BlksAt.own howna5
      obtain ⟨Ab, cbb, rfl, hatb⟩ := BlksAt.own hownb
      obtain ⟨bs, hbs⟩ : ∃ bs, parseB ls = bs := ⟨_, rfl⟩
      rw [hbs] at hata hatb
      rw [hbs]
      have HBs := Lib.hid hbs
      have cs := sameBlocks_same Ab Aa cbb caa bs w5 hatb hata
      have HOwA := Lib.hid (own_low howna5 (by omega : w1.heap.size ≤ w3.heap.size))
      rw [hbs] at HOwA
      clear hownb b5 cb howna5 hata hatb hbs
      go_wp2_with fail
      refine cs.mono ?_
      rintro e w6 ⟨rfl, nq, rfl⟩
      have HB6 := Lib.hid (below_drewN' HB5.out nq)
      have HOw6 := Lib.hid (own_heap (w' := w5.drewN nq) rfl HOwA.out)
      have HO6 := Lib.hid (own_heap (w' := w5.drewN nq) rfl HO5.out)
      have hs6 : w1.heap.size ≤ (w5.drewN nq).heap.size := HB6.out.size
      generalize w5.drewN nq = w6 at *
      clear cs
      go_wp2_with fail
      go_loopw [7, 10] (fun v i wr => GrRel (List.replicate k [32] ++ ls) [] m w1.heap.size w6 v i wr ∧ wr.ownsRow w1.heap.size 28 6 (.slice Aa bs.length caa) bs.length (blksC bs)) (fun _ i _ => m - (intOf i).toNat)
      case atStart => exact ⟨⟨0, rfl, Nat.zero_le _, by simpa using HO6.out, (Below.refl _ _)⟩, HOw6.out⟩
      case round =>
        obtain ⟨⟨k2, rfl, hk2, hown, hbw⟩, hoa⟩ := hrel
        have hss := hbw.size
        rw [hlq] at hown
        by_cases hp : k2 < m
        · have hnw := cells_one wr (.string ⟨#[]⟩) 9
          have hrow2 := hown.alloc (.cells #[.string ⟨#[]⟩] 9)
          have hoa2 := hoa.alloc (.cells #[.string ⟨#[]⟩] 9)
          have HBW := Lib.hid hbw
          clear hbw hoa
          go_wp2_with (at_builtin; refine wpList_append_own _ rfl _ _ 22 rfl w1.heap.size 9 i0 (.string ByteArray.empty) 1 16 Tryd.underlying22 hi hz0 hz1 hz2 rfl (by decide) _ _ _ rfl hrow2 ⟨wr.heap.size, 0, none⟩ 1 1 [.string ⟨#[]⟩] rfl rfl hnw (by simp [Value.oneCell']) (by unfold maxLen; omega) (by omega) (by simp; omega) ?_)
          intro v' w3 hown' hgrow _
          have HO3' := Lib.hid (show w3.ownsRow w1.heap.size 9 1 v' ((List.replicate k ([32] : List UInt8) ++ ls).length + (k2 + 1)) (strs ((List.replicate k [32] ++ ls) ++ List.replicate (k2 + 1) [])) from by
            rw [← gr_step, hlq, ← Nat.add_assoc, List.append_assoc]
            exact hown')
          have HB3' := Lib.hid ((HBW.out.alloc (by omega) (.cells #[.string ⟨#[]⟩] 9)).trans (below_of_grown hgrow (fun g hg => (hrow2.lt g hg).1) (by simp; omega)))
          have HOa3 := Lib.hid (hoa2.kept hgrow (own_apart hoa2 hrow2 (by decide)).ne)
          clear hown' hgrow hrow2 hnw hown hoa2
          go_wp2
          go_roundw
          case rel => exact ⟨⟨k2 + 1, by go_num, by omega, HO3'.out, HB3'.out⟩, HOa3.out⟩
          case measure => simp [intOf]; omega
        · obtain rfl : k2 = m := by omega
          rw [show k + ls.length + k2 = ((List.replicate k ([32] : List UInt8) ++ ls) ++ List.replicate k2 []).length from by rw [List.length_append, List.length_append, List.length_replicate, List.length_replicate]] at hown
          obtain ⟨Az, cz, rfl, hrz, _⟩ := RowOf.own hown
          have hlz : ((List.replicate k ([32] : List UInt8) ++ ls) ++ List.replicate k2 []).length = k + ls.length + k2 := by rw [List.length_append, List.length_append, List.length_replicate, List.length_replicate]
          have cz2 := bparse_any Az cz ((List.replicate k [32] ++ ls) ++ List.replicate k2 []) wr hrz (few_mid hn hm HF.out hl40)
          rw [List.append_assoc, parse_ahead, ← List.append_assoc] at cz2
          rw [hlz] at cz2 ⊢
          have HBW := Lib.hid (HB6.out.trans hbw)
          have HOA := Lib.hid hoa
          have hbh := parse_behind (List.replicate k2 []) (fun s hs => by rw [List.eq_of_mem_replicate hs]; rfl) ls
          rw [HBs.out] at hbh
          have HBh := Lib.hid hbh
          clear hrz hown hbw hoa hbh
          generalize parseB (ls ++ List.replicate k2 []) = cs2 at *
          go_wp2_with fail
          refine cz2.mono ?_
          rintro e w7 ⟨vc, rfl, hownc, b7⟩
          have HB7 := Lib.hid (HBW.out.trans (b7.mono (by have := HBW.out.size; omega)))
          obtain ⟨Ac, cc, rfl, hatc⟩ := BlksAt.own hownc
          have hoa7 := ownsRow_below HOA.out b7
          have hata : BlksAt w7 Aa caa bs := by
            obtain ⟨A', c', e', h'⟩ := BlksAt.own hoa7
            cases e'
            exact h'
          have hck := HBh.out
          have HB7' := HB7.out
          rcases Nat.eq_zero_or_pos bs.length with h0 | h0
          · have e1 : cs2 = bs := by
              rcases hck with e | ⟨Y, c, c', e, _⟩
              · exact e
              · rw [e] at h0
                simp at h0
            subst e1
            have cs' := sameBlocks_same Ac Aa cc caa cs2 w7 hatc hata
            rw [h0] at cs' ⊢
            clear h0 hatc hownc hoa7 hata b7 hck cz2
            go_wp2_with fail
            refine cs'.mono ?_
            rintro e w8 ⟨rfl, nq, rfl⟩
            have HB8 := (HB1.out.then (below_drewN' HB7' nq))
            go_wp2
            go_ret
            exact ⟨rfl, HB8⟩
          · obtain ⟨q, hq⟩ : ∃ q, bs.length = q + 1 := ⟨bs.length - 1, by omega⟩
            have hq1 : q < bs.length := by omega
            obtain ⟨b9, off, rfl, hb9, hc0, -⟩ := hata.at hq1
            have hd : decide ((0 : Int) < ((q + 1 : Nat) : Int)) = true := decide_eq_true (by omega)
            have hle := hata.le
            have hcm := hata.cap
            unfold maxLen at hcm
            by_cases hk6 : bs[q].kind = 6
            · have hlen : cs2.length = bs.length := by
                rcases hck with e | ⟨Y, c, c', e, e', _⟩
                · rw [e]
                · rw [e, e']; simp
              rw [hk6] at hc0
              rw [hlen, hq]
              rw [hq] at hle
              clear hatc hownc hoa7 hata b7 hck cz2 hlen
              go_wp2
              go_ret
              exact ⟨rfl, HB1.out.then HB7'⟩
            · have e1 : cs2 = bs := by
                rcases hck with e | ⟨Y, c, c', e, _, h6⟩
                · exact e
                · subst e
                  simp at hq
                  subst hq
                  simp at hk6
                  exact absurd h6 hk6
              subst e1
              have cs' := sameBlocks_same Ac (some ⟨b9, off, none⟩) cc caa cs2 w7 hatc hata
              have hk7 : decide (cs2[q].kind = 6) = false := by simpa using hk6
              generalize cs2[q].kind = kd at *
              rw [hq] at cs' hle ⊢
              clear hatc hownc hoa7 hata b7 hck cz2
              go_wp2_with fail
              refine cs'.mono ?_
              rintro e w8 ⟨rfl, nq, rfl⟩
              have HB8 := (HB1.out.then (below_drewN' HB7' nq))
              go_wp2
              go_ret
              exact ⟨rfl, HB8⟩

set_option maxHeartbeats 16000000 in
theorem blockBlanks_early (w : World) (A : Option Addr) (cap : Nat) (ls : List (List UInt8)) (n m : Int) (hrow : RowOf w A cap (strs ls)) (hz : ∀ x ∈ ls, x.length ≤ 9223372036854775807) (hbad : plainL ls = false ∨ n < 0 ∨ 5 < n ∨ m < 0 ∨ 5 < m) :
    Calls Tryd.prog 5 #[.slice A ls.length cap, .int .i64 n, .int .i64 m] w fun e w' => e = .returned (.bool true) ∧ Below w.heap.size w w' := by
  have cpl := plain9_any A cap ls w hrow hz
  have hcl := hrow.strs_le
  clear hrow hz
  cases hp : plainL ls with
  | false =>
    rw [hp] at cpl
    clear hp hbad
    go_enter Tryd.func5, Tryd.ntmps5
    go_wp2_with fail
    refine cpl.mono ?_
    rintro e w0 ⟨rfl, hwe⟩
    have hwe := hwe.symm
    subst hwe
    go_wp2_with fail
    refine (alive9_any _).mono ?_
    rintro e w1 ⟨rfl, b1⟩
    go_wp2
    go_ret
    exact ⟨rfl, b1⟩
  | true =>
    rw [hp] at cpl hbad
    have hbad2 : n < 0 ∨ 5 < n ∨ m < 0 ∨ 5 < m := by simpa using hbad
    clear hp hbad
    by_cases hd1p : n < 0
    · have hd1 : decide (n < 0) = true := decide_eq_true hd1p
      clear hd1p hbad2
      go_enter Tryd.func5, Tryd.ntmps5
      go_wp2_with fail
      refine cpl.mono ?_
      rintro e w0 ⟨rfl, hwe⟩
      have hwe := hwe.symm
      subst hwe
      go_wp2_with fail
      refine (alive9_any _).mono ?_
      rintro e w1 ⟨rfl, b1⟩
      go_wp2
      go_ret
      exact ⟨rfl, b1⟩
    have hd1 : decide (n < 0) = false := decide_eq_false hd1p
    by_cases hd2p : 5 < n
    · have hd2 : decide (5 < n) = true := decide_eq_true hd2p
      clear hd2p hbad2
      go_enter Tryd.func5, Tryd.ntmps5
      go_wp2_with fail
      refine cpl.mono ?_
      rintro e w0 ⟨rfl, hwe⟩
      have hwe := hwe.symm
      subst hwe
      go_wp2_with fail
      refine (alive9_any _).mono ?_
      rintro e w1 ⟨rfl, b1⟩
      go_wp2
      go_ret
      exact ⟨rfl, b1⟩
    have hd2 : decide (5 < n) = false := decide_eq_false hd2p
    by_cases hd3p : m < 0
    · have hd3 : decide (m < 0) = true := decide_eq_true hd3p
      clear hd3p hbad2
      go_enter Tryd.func5, Tryd.ntmps5
      go_wp2_with fail
      refine cpl.mono ?_
      rintro e w0 ⟨rfl, hwe⟩
      have hwe := hwe.symm
      subst hwe
      go_wp2_with fail
      refine (alive9_any _).mono ?_
      rintro e w1 ⟨rfl, b1⟩
      go_wp2
      go_ret
      exact ⟨rfl, b1⟩
    have hd3 : decide (m < 0) = false := decide_eq_false hd3p
    by_cases hd4p : 5 < m
    · have hd4 : decide (5 < m) = true := decide_eq_true hd4p
      clear hd4p hbad2
      go_enter Tryd.func5, Tryd.ntmps5
      go_wp2_with fail
      refine cpl.mono ?_
      rintro e w0 ⟨rfl, hwe⟩
      have hwe := hwe.symm
      subst hwe
      go_wp2_with fail
      refine (alive9_any _).mono ?_
      rintro e w1 ⟨rfl, b1⟩
      go_wp2
      go_ret
      exact ⟨rfl, b1⟩
    have hd4 : decide (5 < m) = false := decide_eq_false hd4p
    omega

theorem blockBlanks_walk (w : World) (A0 : Option Addr) (c0 : Nat) (z0 : List ByteArray) (r0 : RowOf w A0 c0 (z0.map Value.string)) (w0 : ∀ s ∈ z0, s.size ≤ maxLen) (a1 : Int) (w1 : (Lit.int .i64 a1).wf = true) (a2 : Int) (w2 : (Lit.int .i64 a2).wf = true) :
    Calls Tryd.prog 5 #[.slice A0 z0.length c0, .int .i64 a1, .int .i64 a2] w fun e w' => e = .returned (.bool true) ∧ Below w.heap.size w w' := by
  rw [strs_of] at r0
  have hz : ∀ y ∈ z0.map (fun s => s.data.toList), y.length ≤ 9223372036854775807 := fun y hy => by
    obtain ⟨s, hs, rfl⟩ := List.mem_map.1 hy
    have := w0 s hs
    unfold maxLen at this
    simpa using this
  by_cases hbad : plainL (z0.map (fun s => s.data.toList)) = false ∨ a1 < 0 ∨ 5 < a1 ∨ a2 < 0 ∨ 5 < a2
  · have h := blockBlanks_early w A0 c0 _ a1 a2 r0 hz hbad
    simp only [List.length_map] at h
    exact h
  · simp only [not_or, Bool.not_eq_false] at hbad
    obtain ⟨h0, h1, h2, h3, h4⟩ := hbad
    obtain ⟨n, rfl⟩ : ∃ n : Nat, a1 = n := ⟨a1.toNat, by omega⟩
    obtain ⟨m, rfl⟩ : ∃ m : Nat, a2 = m := ⟨a2.toNat, by omega⟩
    have h := blockBlanks_short w A0 c0 _ n m r0 hz h0 (by omega) (by omega)
    simp only [List.length_map] at h
    exact h

end Go.Proofs.YtoleoigpijgboaaDoor
