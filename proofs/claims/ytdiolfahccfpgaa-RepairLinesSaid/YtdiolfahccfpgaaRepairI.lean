/-
  RepairGood's walk.
-/
import Derived.Test.YtdiolfahccfpgaaRepairH
import Derived.Test.YtdiolfahccfpgaaFrame
namespace Go.Proofs.Ytdiolfahccfpgaa
open Go.RowKit
set_option linter.unusedSimpArgs false
set_option linter.unusedVariables false

def goodI (r : Int) : Prop := 0 < r ∧ r ≠ 13 ∧ r ≤ 1114111 ∧ ¬ (55296 ≤ r ∧ r ≤ 57343)
theorem goodI_valid {r : Int} (h : goodI r) : Utf8.valid (r.toNat : Int) = true ∧ r.toNat ≠ 0 ∧ r.toNat ≠ 13 := by
  unfold goodI at h
  exact ⟨valid_of _ (by omega), by omega, by omega⟩
def strOfR (rs : List Nat) : ByteArray := ⟨(encs rs).toArray⟩
theorem encode_eq (n : Nat) (h : Utf8.valid n = true) : Utf8.encode n = ⟨(Lib.encodeRune n).toArray⟩ := by
  have hv := of_valid n h
  unfold Utf8.encode
  simp only [h, if_true, Int.toNat_natCast]
  by_cases h1 : n < 128
  · rw [if_pos (by omega), enc1 n h1]
  · by_cases h2 : n < 2048
    · rw [if_neg (by omega), if_pos (by omega), enc2 n (by omega) h2]
    · by_cases h3 : n < 65536
      · rw [if_neg (by omega), if_neg (by omega), if_pos (by omega), enc3 n (by omega)]
      · rw [if_neg (by omega), if_neg (by omega), if_neg (by omega), enc4 n (by omega) (by omega)]
theorem strOfR_snoc (rs : List Nat) (r : Int) (h : goodI r) : strOfR (rs ++ [r.toNat]) = strOfR rs ++ Utf8.encode r := by
  have hv := (goodI_valid h).1
  have e : (r : Int) = ((r.toNat : Nat) : Int) := by unfold goodI at h; omega
  rw [e, encode_eq _ hv, ← e]
  unfold strOfR
  apply ByteArray.ext
  rw [ByteArray.data_append, encs_append, encs_cons, ← e]
  simp [encs]
theorem encs_len : ∀ rs : List Nat, (encs rs).length ≤ 4 * rs.length
  | [] => by simp [encs]
  | x :: rs => by
    have h1 := Lib.encodeRuneZ_length x
    have h2 := encs_len rs
    rw [encs_cons, List.length_append, List.length_cons]
    simp only [Lib.encodeRune, List.length_map]
    omega
theorem strOfR_size (rs : List Nat) : (strOfR rs).size ≤ 4 * rs.length := by
  have := encs_len rs
  show (encs rs).toArray.size ≤ _
  simpa using this

theorem encode_size (r : Int) : (Utf8.encode r).size ≤ 4 := by
  unfold Utf8.encode
  dsimp only
  generalize (if Utf8.valid r = true then r.toNat else Utf8.runeError) = c
  split
  · exact (by decide : (1 : Nat) ≤ 4)
  · split
    · exact (by decide : (2 : Nat) ≤ 4)
    · split
      · exact (by decide : (3 : Nat) ≤ 4)
      · exact (by decide : (4 : Nat) ≤ 4)

/-- The runes up to k. -/
def upTo (z : List Int) (k : Nat) : List Nat := (z.take k).map Int.toNat
theorem upTo_succ (z : List Int) (k : Nat) (h : k < z.length) : upTo z (k + 1) = upTo z k ++ [z[k].toNat] := by
  unfold upTo
  rw [List.take_succ_eq_append_getElem h, List.map_append]; rfl
def GoodUp (z : List Int) (k : Nat) : Prop := ∀ j (h : j < z.length), j < k → goodI z[j]

theorem good_runes (z : List Int) (h : GoodUp z z.length) : ∀ r ∈ upTo z z.length, Utf8.valid r = true ∧ r ≠ 0 ∧ r ≠ 13 := by
  intro r hr
  unfold upTo at hr
  rw [List.take_length] at hr
  obtain ⟨x, hx, rfl⟩ := List.mem_map.1 hr
  obtain ⟨j, hj, rfl⟩ := List.getElem_of_mem hx
  exact goodI_valid (h j hj hj)
theorem textOf_strOfR (rs : List Nat) (h : ∀ r ∈ rs, Utf8.valid r = true ∧ r ≠ 0 ∧ r ≠ 13) : textOf (strOfR rs) = strOfR rs := by
  unfold textOf strOfR
  rw [show (ByteArray.mk (encs rs).toArray).data.toList = encs rs from by simp, textL_encs rs h]

/-- How many runes are left at pos. -/
def leftAt (s : ByteArray) (pos : Nat) : Nat := (segs (s.data.toList.drop pos)).length
theorem leftAt_step (s : ByteArray) (pos : Nat) (h : pos < s.size) : leftAt s pos = leftAt s (pos + (Utf8.decode s pos).2) + 1 := by
  unfold leftAt
  obtain ⟨b, l, e⟩ := drop_cons s pos h
  rw [e, segs_cons, ← e, ← decode_dec, List.drop_drop]
  rfl
theorem leftAt_end (s : ByteArray) (pos : Nat) (h : ¬ pos < s.size) : leftAt s pos = 0 := by
  unfold leftAt
  rw [List.drop_eq_nil_of_le (by simpa using h)]; rfl
theorem leftAt_strOfR (rs : List Nat) (h : ∀ r ∈ rs, Utf8.valid r = true) : leftAt (strOfR rs) 0 = rs.length := by
  unfold leftAt strOfR
  rw [show (ByteArray.mk (encs rs).toArray).data.toList = encs rs from by simp, List.drop_zero, segs_encs rs h, List.length_map]

theorem row_cell {w : World} {A : Option Addr} {cap : Nat} {α : Type} {z : List α} {f : α → Value} (h : RowOf w A cap (z.map f)) (hne : z ≠ []) : ∃ b off, A = some ⟨b, off, none⟩ ∧ ∀ k (hk : k < z.length), w.cell? ⟨b, off + k, none⟩ = some (f z[k]) := by
  rcases h.2.2 with h0 | ⟨b, off, e, _, hc⟩
  · exact absurd (List.map_eq_nil_iff.1 h0) hne
  · exact ⟨b, off, e, fun k hk => by rw [hc k (by simpa using hk)]; simp⟩

set_option maxHeartbeats 2000000 in
theorem repairGood_walk (w : World) (A0 : Option Addr) (c0 : Nat) (z0 : List Int) (r0 : RowOf w A0 c0 (z0.map (Value.int .i32))) (w0 : ∀ n ∈ z0, (Lit.int .i32 n).wf = true) :
    Calls Try.prog 5 #[.slice A0 z0.length c0] w fun e w' => e = .returned (.bool true) ∧ Below w.heap.size w w' := by
  have hm0 : z0.length ≤ maxLen := by have := r0.1; have := r0.2.1; simp at *; omega
  unfold maxLen at hm0
  by_cases hl : 60 < z0.length
  · clear r0 w0
    go_enter Try.func5, Try.ntmps5
    go_wp2_with (go_at_call 8; refine (alive_any _).mono ?_; rintro e w3 ⟨rfl, b1⟩)
    go_ret
    exact ⟨rfl, by assumption⟩
  · have R0 := Lib.hid r0
    have W0 := Lib.hid w0
    clear r0 w0
    go_enter Try.func5, Try.ntmps5
    go_wp2_with fail
    refine (alive_any _).mono ?_
    rintro e W1 ⟨rfl, b1⟩
    have R1 := Lib.hid (R0.out.below b1)
    go_wp2_with fail
    go_loop [3, 17] (fun s i => ∃ k : Nat, k ≤ z0.length ∧ i = .int .i64 k ∧ s = .string (strOfR (upTo z0 k)) ∧ GoodUp z0 k) (fun _ i => z0.length - (intOf i).toNat)
    case atStart => exact ⟨0, Nat.zero_le _, rfl, by simp [strOfR, upTo, encs], fun j _ hj => absurd hj (by omega)⟩
    case round =>
      obtain ⟨k, hk, rfl, rfl, hg⟩ := hrel
      have HG := Lib.hid hg
      clear hg
      have hsz := strOfR_size (upTo z0 k)
      have hul : (upTo z0 k).length ≤ 60 := by unfold upTo; simp; omega
      by_cases hlt : k < z0.length
      · obtain ⟨b, off, hA, hc⟩ := row_cell R1.out (List.ne_nil_of_length_pos (by omega))
        subst hA
        have hcell := hc k hlt
        have hkz : z0[k] ∈ z0 := List.getElem_mem _
        have hup := upTo_succ z0 k hlt
        have HU := Lib.hid hup
        have hb := Go.bounds_i32 (W0.out _ hkz)
        clear hc hup hkz
        by_cases hgd : goodI z0[k]
        · have HN := Lib.hid (show GoodUp z0 (k + 1) from fun j hj hjk => by
            by_cases e : j = k
            · subst e; exact hgd
            · exact HG.out j hj (by omega))
          have HS := Lib.hid (strOfR_snoc (upTo z0 k) _ hgd)
          unfold goodI at hgd
          obtain ⟨g1, g2, g3, g4⟩ := hgd
          have f2 : (z0[k] == 13) = false := by simpa using g2
          generalize z0[k] = r at *
          have hen := encode_size r
          by_cases g5 : 55296 ≤ r
          · have g6 : 57343 < r := by omega
            clear g2 g4
            go_wp2
            go_round
            case rel => exact ⟨k + 1, by omega, by go_num, by rw [HU.out, HS.out], HN.out⟩
            case measure => simp [intOf]; omega
          · clear g2 g4
            go_wp2
            go_round
            case rel => exact ⟨k + 1, by omega, by go_num, by rw [HU.out, HS.out], HN.out⟩
            case measure => simp [intOf]; omega
        · unfold goodI at hgd
          generalize z0[k] = r at *
          clear HU HG
          by_cases g1 : r ≤ 0
          · clear hgd
            go_wp2
            go_ret
            exact ⟨rfl, b1⟩
          · by_cases g2 : r = 13
            · have f2 : (r == 13) = true := by simpa using g2
              clear hgd g2
              go_wp2
              go_ret
              exact ⟨rfl, b1⟩
            · have f2 : (r == 13) = false := by simpa using g2
              by_cases g3 : 1114111 < r
              · clear hgd g2
                go_wp2
                go_ret
                exact ⟨rfl, b1⟩
              · have g4 : 55296 ≤ r := by omega
                have g5 : r ≤ 57343 := by omega
                clear hgd g2
                go_wp2
                go_ret
                exact ⟨rfl, b1⟩
      · obtain rfl : k = z0.length := by omega
        have hgr := good_runes z0 HG.out
        have hT := textIs (strOfR (upTo z0 z0.length)) (by omega)
        rw [textOf_strOfR _ hgr] at hT
        have hL := leftAt_strOfR (upTo z0 z0.length) (fun r hr => (hgr r hr).1)
        have hlen : (upTo z0 z0.length).length = z0.length := by unfold upTo; simp
        rw [hlen] at hL hsz
        generalize strOfR (upTo z0 z0.length) = S at *
        have HL := Lib.hid hL
        clear hgr hL hlen hul HG hlt hk
        go_wp2_with fail
        refine (hT _).mono ?_
        rintro e W2 ⟨rfl, b2⟩
        go_wp2_with fail
        go_loopw [6] (fun n wr => ∃ (pos j : Nat), n = .int .i64 j ∧ wr.heap[W2.heap.size]? = some (.stringIter S pos) ∧ Below W2.heap.size W2 wr ∧ leftAt S pos + j = z0.length) (fun _ wr => S.size - wr.iterPos W2.heap.size)
        case atStart => exact ⟨0, 0, rfl, World.iter_heap W2 S 0, (Below.refl _ _).alloc (Nat.le_refl _) _, by rw [HL.out]; rfl⟩
        case round =>
          obtain ⟨pos, j, rfl, hit, hbw, hj⟩ := hrel
          by_cases hp : pos < S.size
          · have hnx : ∀ ty, (Instr.next (.pointer (some ⟨W2.heap.size, 0, none⟩)) true ty).run Try.prog wr = _ := fun ty => Lib.run_next_any_at wr W2.heap.size S pos ty hit hp
            have hwd := width_pos S pos hp
            have hst := leftAt_step S pos hp
            have hj60 : j ≤ 60 := by omega
            have HJ := Lib.hid (show leftAt S (pos + (Utf8.decode S pos).2) + (j + 1) = z0.length from by omega)
            have hit2 := Lib.iterAt_heap wr W2.heap.size S pos (pos + (Utf8.decode S pos).2) hit
            have hbw2 := Lib.below_iterAt hbw (k := W2.heap.size) (Nat.le_refl _) S (pos + (Utf8.decode S pos).2)
            have Hit := Lib.hid hit
            clear hst hj hit hbw
            go_wp2
            go_roundw
            case rel => exact ⟨_, j + 1, by go_num, hit2, hbw2, HJ.out⟩
            case measure => simp only [World.iterPos, hit2, Hit.out]; omega
          · have hnx : ∀ ty, (Instr.next (.pointer (some ⟨W2.heap.size, 0, none⟩)) true ty).run Try.prog wr = _ := fun ty => Lib.run_next_end_at wr W2.heap.size S pos ty hit hp
            have hj2 : j = z0.length := by have := leftAt_end S pos hp; omega
            have hf : ((j : Int) == (z0.length : Int)) = true := by rw [hj2]; simp
            clear hj hj2
            go_wp2_with fail
            refine (hT _).mono ?_
            rintro e W3 ⟨rfl, b3⟩
            go_wp2
            go_ret
            have s1 := b1.size
            have s2 := b2.size
            have s3 := hbw.size
            exact ⟨ret_bool (by simp), ((b1.trans (b2.mono (by omega))).trans (hbw.mono (by omega))).trans (b3.mono (by omega))⟩

end Go.Proofs.Ytdiolfahccfpgaa
