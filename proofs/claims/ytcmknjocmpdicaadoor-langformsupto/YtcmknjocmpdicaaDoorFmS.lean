import Derived.Test.YtcmknjocmpdicaaDoorFmR
namespace Go.Proofs.YtcmknjocmpdicaaDoor
open Go.ChangeShapes Go.WideShapes Go.ChangeAt Go.RowKit
theorem res_yes2 {L : List UInt8} {x : List UInt8} (hx : x ∈ rws) (h : (x == L) = true) : resB L = true := by
  have e : x = L := by simpa using h
  subst e
  simpa [resB] using hx
/-- none of the first k words -/
def NB (L : List UInt8) (k : Nat) : Prop := ∀ x ∈ rws.take k, (L == x) = false
theorem nb_next {L : List UInt8} {k : Nat} {x : List UInt8} (h : NB L k) (hx : rws.take (k + 1) = rws.take k ++ [x]) (hf : (x == L) = false) : NB L (k + 1) := by
  intro y hy
  rw [hx, List.mem_append] at hy
  rcases hy with hy | hy
  · exact h y hy
  · have e : y = x := by simpa using hy
    subst e
    have : ¬ y = L := by simpa using hf
    simpa using fun e : L = y => this e.symm
theorem nb_all {L : List UInt8} (h : NB L 17) : resB L = false := res_no (fun x hx => h x (by simpa [rws] using hx))
set_option maxHeartbeats 8000000 in
theorem rres_any (s : ByteArray) (w : World) : Calls Tryd.prog 19 #[.string s] w fun e w' => e = .returned (.bool (resB s.toList)) ∧ Below w.heap.size w w' := by
  obtain ⟨L, hL⟩ : ∃ L, L = s.toList := ⟨_, rfl⟩
  rw [← hL]
  have HG : Hid (Below w.heap.size w (w.alloc (.cells #[.string ⟨#[112, 114, 111, 103, 114, 97, 109]⟩, .string ⟨#[119, 105, 100, 116, 104]⟩, .string ⟨#[108, 105, 110, 101]⟩, .string ⟨#[112, 117, 98, 108, 105, 99]⟩, .string ⟨#[115, 101, 99, 114, 101, 116]⟩, .string ⟨#[99, 111, 110, 115, 116]⟩, .string ⟨#[118, 97, 114]⟩, .string ⟨#[111, 117, 116]⟩, .string ⟨#[98, 101, 103, 105, 110]⟩, .string ⟨#[101, 110, 100]⟩, .string ⟨#[105, 102]⟩, .string ⟨#[101, 108, 115, 101]⟩, .string ⟨#[102, 111, 114]⟩, .string ⟨#[114, 101, 108, 101, 97, 115, 101]⟩, .string ⟨#[115, 97, 114]⟩, .string ⟨#[115, 108, 116]⟩, .string ⟨#[115, 101, 108]⟩] 9))) := (Below.refl _ _).alloc (Nat.le_refl _) _
  go_enter Tryd.func19, Tryd.ntmps19
  go_wp2_with fail
  go_loopg [4] 17 (fun gk v4 wr => ∃ k : Nat, v4 = .int .i64 (k : Int) ∧ k + gk = 17 ∧ wr = w.alloc (.cells #[.string ⟨#[112, 114, 111, 103, 114, 97, 109]⟩, .string ⟨#[119, 105, 100, 116, 104]⟩, .string ⟨#[108, 105, 110, 101]⟩, .string ⟨#[112, 117, 98, 108, 105, 99]⟩, .string ⟨#[115, 101, 99, 114, 101, 116]⟩, .string ⟨#[99, 111, 110, 115, 116]⟩, .string ⟨#[118, 97, 114]⟩, .string ⟨#[111, 117, 116]⟩, .string ⟨#[98, 101, 103, 105, 110]⟩, .string ⟨#[101, 110, 100]⟩, .string ⟨#[105, 102]⟩, .string ⟨#[101, 108, 115, 101]⟩, .string ⟨#[102, 111, 114]⟩, .string ⟨#[114, 101, 108, 101, 97, 115, 101]⟩, .string ⟨#[115, 97, 114]⟩, .string ⟨#[115, 108, 116]⟩, .string ⟨#[115, 101, 108]⟩] 9) ∧ Aside (NB L k))
  case atStart => exact ⟨0, rfl, by omega, rfl, fun x hx => by simp at hx⟩
  case round =>
    obtain ⟨k, rfl, hk, rfl, hn⟩ := hrel
    have hn : Hid (NB L k) := hn.out
    by_cases hlt : k < 17
    · have hc : k = 0 ∨ k = 1 ∨ k = 2 ∨ k = 3 ∨ k = 4 ∨ k = 5 ∨ k = 6 ∨ k = 7 ∨ k = 8 ∨ k = 9 ∨ k = 10 ∨ k = 11 ∨ k = 12 ∨ k = 13 ∨ k = 14 ∨ k = 15 ∨ k = 16 := by omega
      rcases hc with rfl | rfl | rfl | rfl | rfl | rfl | rfl | rfl | rfl | rfl | rfl | rfl | rfl | rfl | rfl | rfl | rfl
      · by_cases t : ([112, 114, 111, 103, 114, 97, 109] == L) = true
        · have HR : Hid (resB L = true) := res_yes2 (by decide) t
          rw [hL] at t
          go_wp2
          go_ret
          exact ⟨by rw [HR.out] <;> rfl, HG.out⟩
        · replace t : ([112, 114, 111, 103, 114, 97, 109] == L) = false := by simpa using t
          have HN : Aside (NB L (0 + 1)) := nb_next hn.out rfl t
          clear hn
          rw [hL] at t
          go_wp2_with fail
          go_roundg 16
          case measure => omega
          case rel => exact ⟨0 + 1, rfl, by omega, rfl, HN⟩
      · by_cases t : ([119, 105, 100, 116, 104] == L) = true
        · have HR : Hid (resB L = true) := res_yes2 (by decide) t
          rw [hL] at t
          go_wp2
          go_ret
          exact ⟨by rw [HR.out] <;> rfl, HG.out⟩
        · replace t : ([119, 105, 100, 116, 104] == L) = false := by simpa using t
          have HN : Aside (NB L (1 + 1)) := nb_next hn.out rfl t
          clear hn
          rw [hL] at t
          go_wp2_with fail
          go_roundg 15
          case measure => omega
          case rel => exact ⟨1 + 1, rfl, by omega, rfl, HN⟩
      · by_cases t : ([108, 105, 110, 101] == L) = true
        · have HR : Hid (resB L = true) := res_yes2 (by decide) t
          rw [hL] at t
          go_wp2
          go_ret
          exact ⟨by rw [HR.out] <;> rfl, HG.out⟩
        · replace t : ([108, 105, 110, 101] == L) = false := by simpa using t
          have HN : Aside (NB L (2 + 1)) := nb_next hn.out rfl t
          clear hn
          rw [hL] at t
          go_wp2_with fail
          go_roundg 14
          case measure => omega
          case rel => exact ⟨2 + 1, rfl, by omega, rfl, HN⟩
      · by_cases t : ([112, 117, 98, 108, 105, 99] == L) = true
        · have HR : Hid (resB L = true) := res_yes2 (by decide) t
          rw [hL] at t
          go_wp2
          go_ret
          exact ⟨by rw [HR.out] <;> rfl, HG.out⟩
        · replace t : ([112, 117, 98, 108, 105, 99] == L) = false := by simpa using t
          have HN : Aside (NB L (3 + 1)) := nb_next hn.out rfl t
          clear hn
          rw [hL] at t
          go_wp2_with fail
          go_roundg 13
          case measure => omega
          case rel => exact ⟨3 + 1, rfl, by omega, rfl, HN⟩
      · by_cases t : ([115, 101, 99, 114, 101, 116] == L) = true
        · have HR : Hid (resB L = true) := res_yes2 (by decide) t
          rw [hL] at t
          go_wp2
          go_ret
          exact ⟨by rw [HR.out] <;> rfl, HG.out⟩
        · replace t : ([115, 101, 99, 114, 101, 116] == L) = false := by simpa using t
          have HN : Aside (NB L (4 + 1)) := nb_next hn.out rfl t
          clear hn
          rw [hL] at t
          go_wp2_with fail
          go_roundg 12
          case measure => omega
          case rel => exact ⟨4 + 1, rfl, by omega, rfl, HN⟩
      · by_cases t : ([99, 111, 110, 115, 116] == L) = true
        · have HR : Hid (resB L = true) := res_yes2 (by decide) t
          rw [hL] at t
          go_wp2
          go_ret
          exact ⟨by rw [HR.out] <;> rfl, HG.out⟩
        · replace t : ([99, 111, 110, 115, 116] == L) = false := by simpa using t
          have HN : Aside (NB L (5 + 1)) := nb_next hn.out rfl t
          clear hn
          rw [hL] at t
          go_wp2_with fail
          go_roundg 11
          case measure => omega
          case rel => exact ⟨5 + 1, rfl, by omega, rfl, HN⟩
      · by_cases t : ([118, 97, 114] == L) = true
        · have HR : Hid (resB L = true) := res_yes2 (by decide) t
          rw [hL] at t
          go_wp2
          go_ret
          exact ⟨by rw [HR.out] <;> rfl, HG.out⟩
        · replace t : ([118, 97, 114] == L) = false := by simpa using t
          have HN : Aside (NB L (6 + 1)) := nb_next hn.out rfl t
          clear hn
          rw [hL] at t
          go_wp2_with fail
          go_roundg 10
          case measure => omega
          case rel => exact ⟨6 + 1, rfl, by omega, rfl, HN⟩
      · by_cases t : ([111, 117, 116] == L) = true
        · have HR : Hid (resB L = true) := res_yes2 (by decide) t
          rw [hL] at t
          go_wp2
          go_ret
          exact ⟨by rw [HR.out] <;> rfl, HG.out⟩
        · replace t : ([111, 117, 116] == L) = false := by simpa using t
          have HN : Aside (NB L (7 + 1)) := nb_next hn.out rfl t
          clear hn
          rw [hL] at t
          go_wp2_with fail
          go_roundg 9
          case measure => omega
          case rel => exact ⟨7 + 1, rfl, by omega, rfl, HN⟩
      · by_cases t : ([98, 101, 103, 105, 110] == L) = true
        · have HR : Hid (resB L = true) := res_yes2 (by decide) t
          rw [hL] at t
          go_wp2
          go_ret
          exact ⟨by rw [HR.out] <;> rfl, HG.out⟩
        · replace t : ([98, 101, 103, 105, 110] == L) = false := by simpa using t
          have HN : Aside (NB L (8 + 1)) := nb_next hn.out rfl t
          clear hn
          rw [hL] at t
          go_wp2_with fail
          go_roundg 8
          case measure => omega
          case rel => exact ⟨8 + 1, rfl, by omega, rfl, HN⟩
      · by_cases t : ([101, 110, 100] == L) = true
        · have HR : Hid (resB L = true) := res_yes2 (by decide) t
          rw [hL] at t
          go_wp2
          go_ret
          exact ⟨by rw [HR.out] <;> rfl, HG.out⟩
        · replace t : ([101, 110, 100] == L) = false := by simpa using t
          have HN : Aside (NB L (9 + 1)) := nb_next hn.out rfl t
          clear hn
          rw [hL] at t
          go_wp2_with fail
          go_roundg 7
          case measure => omega
          case rel => exact ⟨9 + 1, rfl, by omega, rfl, HN⟩
      · by_cases t : ([105, 102] == L) = true
        · have HR : Hid (resB L = true) := res_yes2 (by decide) t
          rw [hL] at t
          go_wp2
          go_ret
          exact ⟨by rw [HR.out] <;> rfl, HG.out⟩
        · replace t : ([105, 102] == L) = false := by simpa using t
          have HN : Aside (NB L (10 + 1)) := nb_next hn.out rfl t
          clear hn
          rw [hL] at t
          go_wp2_with fail
          go_roundg 6
          case measure => omega
          case rel => exact ⟨10 + 1, rfl, by omega, rfl, HN⟩
      · by_cases t : ([101, 108, 115, 101] == L) = true
        · have HR : Hid (resB L = true) := res_yes2 (by decide) t
          rw [hL] at t
          go_wp2
          go_ret
          exact ⟨by rw [HR.out] <;> rfl, HG.out⟩
        · replace t : ([101, 108, 115, 101] == L) = false := by simpa using t
          have HN : Aside (NB L (11 + 1)) := nb_next hn.out rfl t
          clear hn
          rw [hL] at t
          go_wp2_with fail
          go_roundg 5
          case measure => omega
          case rel => exact ⟨11 + 1, rfl, by omega, rfl, HN⟩
      · by_cases t : ([102, 111, 114] == L) = true
        · have HR : Hid (resB L = true) := res_yes2 (by decide) t
          rw [hL] at t
          go_wp2
          go_ret
          exact ⟨by rw [HR.out] <;> rfl, HG.out⟩
        · replace t : ([102, 111, 114] == L) = false := by simpa using t
          have HN : Aside (NB L (12 + 1)) := nb_next hn.out rfl t
          clear hn
          rw [hL] at t
          go_wp2_with fail
          go_roundg 4
          case measure => omega
          case rel => exact ⟨12 + 1, rfl, by omega, rfl, HN⟩
      · by_cases t : ([114, 101, 108, 101, 97, 115, 101] == L) = true
        · have HR : Hid (resB L = true) := res_yes2 (by decide) t
          rw [hL] at t
          go_wp2
          go_ret
          exact ⟨by rw [HR.out] <;> rfl, HG.out⟩
        · replace t : ([114, 101, 108, 101, 97, 115, 101] == L) = false := by simpa using t
          have HN : Aside (NB L (13 + 1)) := nb_next hn.out rfl t
          clear hn
          rw [hL] at t
          go_wp2_with fail
          go_roundg 3
          case measure => omega
          case rel => exact ⟨13 + 1, rfl, by omega, rfl, HN⟩
      · by_cases t : ([115, 97, 114] == L) = true
        · have HR : Hid (resB L = true) := res_yes2 (by decide) t
          rw [hL] at t
          go_wp2
          go_ret
          exact ⟨by rw [HR.out] <;> rfl, HG.out⟩
        · replace t : ([115, 97, 114] == L) = false := by simpa using t
          have HN : Aside (NB L (14 + 1)) := nb_next hn.out rfl t
          clear hn
          rw [hL] at t
          go_wp2_with fail
          go_roundg 2
          case measure => omega
          case rel => exact ⟨14 + 1, rfl, by omega, rfl, HN⟩
      · by_cases t : ([115, 108, 116] == L) = true
        · have HR : Hid (resB L = true) := res_yes2 (by decide) t
          rw [hL] at t
          go_wp2
          go_ret
          exact ⟨by rw [HR.out] <;> rfl, HG.out⟩
        · replace t : ([115, 108, 116] == L) = false := by simpa using t
          have HN : Aside (NB L (15 + 1)) := nb_next hn.out rfl t
          clear hn
          rw [hL] at t
          go_wp2_with fail
          go_roundg 1
          case measure => omega
          case rel => exact ⟨15 + 1, rfl, by omega, rfl, HN⟩
      · by_cases t : ([115, 101, 108] == L) = true
        · have HR : Hid (resB L = true) := res_yes2 (by decide) t
          rw [hL] at t
          go_wp2
          go_ret
          exact ⟨by rw [HR.out] <;> rfl, HG.out⟩
        · replace t : ([115, 101, 108] == L) = false := by simpa using t
          have HN : Aside (NB L (16 + 1)) := nb_next hn.out rfl t
          clear hn
          rw [hL] at t
          go_wp2_with fail
          go_roundg 0
          case measure => omega
          case rel => exact ⟨16 + 1, rfl, by omega, rfl, HN⟩
    · obtain rfl : k = 17 := by omega
      have HR : Hid (resB L = false) := nb_all hn.out
      clear hn
      go_wp2
      go_ret
      exact ⟨by rw [HR.out] <;> rfl, HG.out⟩
end Go.Proofs.YtcmknjocmpdicaaDoor
