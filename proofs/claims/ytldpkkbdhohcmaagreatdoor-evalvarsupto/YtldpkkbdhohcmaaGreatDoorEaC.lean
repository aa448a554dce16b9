import Derived.Test.YtldpkkbdhohcmaaGreatDoorGzM
import Derived.Laws.StructEq
import Derived.Laws.ResultCell
import Derived.Laws.Rows
import Derived.Test.YtldpkkbdhohcmaaGreatDoorEvN
import Derived.Test.YtldpkkbdhohcmaaGreatDoorTmPh
import Derived.Maps.AppendAt
import Derived.Shelf.RegionOpen
namespace Go.Proofs.YtldpkkbdhohcmaaGreatDoor.G3
open Go.Proofs.YtldpkkbdhohcmaaGreatDoor
open Go.ChangeShapes Go.WideShapes Go.ChangeAt Go.RowKit Go.Lib Go.Tm Go.Bw Go.Bn Go.WideMaps Go.Maps Go.ChangeMaps Go.Shelf

set_option maxHeartbeats 4000000 in
set_option maxRecDepth 100000 in
theorem coneOf_nil (ad : Option Addr) (q cp : Nat) (w : World) : Calls Tryz.prog 19 #[.pointer none,.slice ad q cp] w fun e w' => e = .returned (.tuple #[.agg #[.pointer none,.slice none 0 0],.int .i64 2]) /\ Below w.heap.size w w' := by
  go_enter Tryz.func19,Tryz.ntmps19
  go_wp2_with fail
  refine bodyPost_ret (v := .tuple #[.agg #[.pointer none,.slice none 0 0],.int .i64 2]) (res_row (p := 4) (u := 5) rfl _ _ w.heap.size 57 _ (0,0) _ _ rfl (heap_alloc_new w _) rfl Tryz.underlying57 rfl (by kernel_rfl)) rfl ?_; exact ⟨rfl,bel1 _ _⟩
set_option maxHeartbeats 4000000 in
set_option maxRecDepth 100000 in
theorem coneOf_no (B0 B : Nat) (lim : Int) (L : List Nd) (v : Value) (M1 M2 : Option Nat) {ad : Option Addr} {cp : Nat} {xs : List Int} (w : World) (hS : SM 125 w B0 B lim L v M1 M2) (h : IR w ad xs) (hl : xs.length < 1000000000000000) (hr : ∃ x ∈ xs,isT L x = false) :
    Calls Tryz.prog 19 #[.pointer (some ⟨B,0,none⟩),.slice ad xs.length cp] w fun e w' => e = .returned (.tuple #[.agg #[.pointer (some ⟨B,0,none⟩),.slice none 0 0],.int .i64 70]) /\ Below w.heap.size w w' := by
  have HOk : Hid (∀ W,Below w.heap.size w W -> Calls Tryz.prog 44 #[.pointer (some ⟨B,0,none⟩),.slice ad xs.length cp] W fun e w' => e = .returned (.tuple #[.slice none 0 0,.int .i64 70]) /\ w' = W) := fun W hb => order_no (cp := cp) B0 B lim L v M1 M2 W (hS.below hb) (h.below hb) hl hr
  clear hS h hr
  generalize xs.length = q at *
  go_enter Tryz.func19,Tryz.ntmps19
  go_wp2_with fail
  refine (HOk.out _ (bel1 _ _)).mono ?_; rintro e wn ⟨rfl,hwn⟩; subst wn
  go_wp2_with fail
  refine bodyPost_ret (v := .tuple #[.agg #[.pointer (some ⟨B,0,none⟩),.slice none 0 0],.int .i64 70]) (res_row (p := 4) (u := 5) rfl _ _ w.heap.size 57 _ (0,0) _ _ rfl (heap_alloc_new w _) rfl Tryz.underlying57 rfl (by kernel_rfl)) rfl ?_; exact ⟨rfl,bel1 _ _⟩
set_option maxHeartbeats 4000000 in
set_option maxRecDepth 100000 in
/-- Vars refuses where the cone is refused -/
theorem vars_no {p : Option Addr} {ad : Option Addr} {q cp : Nat} {c : Int} (hc : (c != 0) = true) (w : World) (H : Calls Tryz.prog 19 #[.pointer p,.slice ad q cp] w fun e w' => e = .returned (.tuple #[.agg #[.pointer p,.slice none 0 0],.int .i64 c]) /\ Below w.heap.size w w') :
    Calls Tryz.prog 6 #[.pointer p,.slice ad q cp] w fun e w' => e = .returned (.tuple #[.slice none 0 0,.int .i64 c]) /\ Below w.heap.size w w' := by
  have HC := Lib.hid H; clear H
  go_enter Tryz.func6,Tryz.ntmps6
  go_wp2_with fail
  refine HC.out.mono ?_; rintro e w1 ⟨rfl,hb1⟩; have H1 : Hid (Below w.heap.size w (w1.alloc (Obj.cells #[.pointer p,.slice none 0 0] 57))) := hb1.trans (below_le' (bel1 w1 _) hb1.size); clear hb1 HC
  go_wp2_with fail
  first
    | exact ⟨rfl,H1.out⟩
    | (go_ret2; exact ⟨rfl,H1.out⟩)
set_option maxHeartbeats 4000000 in
set_option maxRecDepth 100000 in
/-- .. and Size -/
theorem size_no {p : Option Addr} {t : Int} {c : Int} (hc : (c != 0) = true) (w : World) (H : ∀ W cp,Below w.heap.size w W -> IR W (some ⟨w.heap.size,0,none⟩) [t] -> Calls Tryz.prog 19 #[.pointer p,.slice (some ⟨w.heap.size,0,none⟩) 1 cp] W fun e w' => e = .returned (.tuple #[.agg #[.pointer p,.slice none 0 0],.int .i64 c]) /\ Below W.heap.size W w') :
    Calls Tryz.prog 10 #[.pointer p,.int .i64 t] w fun e w' => e = .returned (.tuple #[.int .i64 0,.int .u64 0,.int .i64 0,.int .i64 c]) /\ Below w.heap.size w w' := by
  have HC := Lib.hid H; clear H; refine (callsIn_wide (n := 9)).1 ?_; refine callsIn_of_wp_marks Tryz.func10 rfl trivial ?_ rfl; simp only [Tryz.ntmps10,List.size_toArray,List.length_cons,List.length_nil,Nat.reduceAdd,Nat.reduceSub,Array.replicate_succ,Array.replicate_zero,List.push_toArray,List.append_toArray,List.nil_append,List.cons_append]
  gi_wp2_with fail
  refine ⟨trivial,(callsIn_wide.2 (HC.out _ 1 (bel1 _ _) ?ir)).mono ?_⟩
  case ir => exact fun _ => ⟨w.heap.size,0,rfl,by simp,fun j hj => by
    obtain rfl : j = 0 := by simpa using hj
    exact (blk_cell (heap_alloc_new w _) 0).trans rfl⟩
  rintro e w1 ⟨rfl,hb1⟩; have hb : Below w.heap.size w w1 := (bel1 w _).trans (below_le' hb1 (by simp)); have H1 : Hid (Below w.heap.size w (w1.alloc (Obj.cells #[.pointer p,.slice none 0 0] 57))) := hb.trans (below_le' (bel1 w1 _) hb.size); clear hb1 hb HC
  gi_wp2_with fail
  refine ⟨.tuple #[.int .i64 0,.int .u64 0,.int .i64 0,.int .i64 c],?hres,⟨rfl,H1.out⟩⟩
  case hres => first | rfl | (simp [results]; done)
end Go.Proofs.YtldpkkbdhohcmaaGreatDoor.G3
namespace Go.Proofs.YtldpkkbdhohcmaaGreatDoor.G3
open Go.Proofs.YtldpkkbdhohcmaaGreatDoor
open Go.ChangeShapes Go.WideShapes Go.ChangeAt Go.RowKit Go.Lib Go.Tm Go.Bw Go.Bn Go.WideMaps Go.Maps Go.ChangeMaps

theorem fieldsN : Tryz.prog.underlying 64 = some (.struct (Tryz.prog.fieldsOf 64)) := by kernel_rfl
theorem heldN : Tryz.prog.stoodInHeld 64 = false := by kernel_rfl
set_option maxRecDepth 100000 in
theorem eqIn_node (op u a b c num : Int) (nm : ByteArray) (w : World) : (Op.equalIn 10000 64 (.agg #[.int .i64 op,.int .i64 u,.int .i64 a,.int .i64 b,.int .i64 c,.int .u64 num,.string nm]) (.agg #[.int .i64 op,.int .i64 u,.int .i64 a,.int .i64 b,.int .i64 c,.int .u64 num,.string nm])).run Tryz.prog w = .ok true w := by
  rw [show (10000 : Nat) = 9999 + 1 from rfl,run_equalIn_struct w 9999 64 _ _ fieldsN heldN]; obtain ⟨fs,hfs⟩ : ∃ fs,(Tryz.prog.fieldsOf 64).toList = fs := ⟨_,rfl⟩; rw [hfs]; have hu := Tryz.underlying64; rw [fieldsN] at hu
  injection hu with hu
  injection hu with hu
  rw [hu] at hfs; subst hfs
  simp [Op.eqFields,part,run_equalIn_int w 9998 3 .i64 .i64 _ _ Tryz.underlying3,run_equalIn_int w 9998 36 .u64 .u64 _ _ Tryz.underlying36,run_equalIn_string w 9998 9 _ _ Tryz.underlying9]
theorem neq_node (op u a b c num : Int) (nm : ByteArray) (w : World) : (binOp .neq 64 (.agg #[.int .i64 op,.int .i64 u,.int .i64 a,.int .i64 b,.int .i64 c,.int .u64 num,.string nm]) (.agg #[.int .i64 op,.int .i64 u,.int .i64 a,.int .i64 b,.int .i64 c,.int .u64 num,.string nm])).run Tryz.prog w = .ok (.bool false) w := by
  rw [run_neq_struct,eqIn_node]
  rfl
theorem len_any (B0 B : Nat) (lim : Int) (L : List Nd) (v : Value) (M1 M2 : Option Nat) (w : World) (h : SM 125 w B0 B lim L v M1 M2) :
    Calls Tryz.prog 37 #[.pointer (some ⟨B,0,none⟩)] w fun e w' => e = .returned (.int .i64 (L.length : Int)) /\ w' = w := by
  obtain ⟨ad,c,rfl,hc,-⟩ := h.form; have c1 : w.cell? ⟨B,1,none⟩ = some (.slice ad L.length c) := blk_cell h.blk 1
  generalize L.length = n at *
  clear h
  go_enter Tryz.func37,Tryz.ntmps37
  go_wp2
  go_ret
  exact ⟨rfl,rfl⟩
theorem fieldsV : Tryz.prog.underlying 52 = some (.struct (Tryz.prog.fieldsOf 52)) := by kernel_rfl
theorem heldV : Tryz.prog.stoodInHeld 52 = false := by kernel_rfl
set_option maxRecDepth 100000 in
theorem eqIn_val (nm : ByteArray) (u num : Int) (w : World) : (Op.equalIn 10000 52 (.agg #[.string nm,.int .i64 u,.int .u64 num]) (.agg #[.string nm,.int .i64 u,.int .u64 num])).run Tryz.prog w = .ok true w := by
  rw [show (10000 : Nat) = 9999 + 1 from rfl,run_equalIn_struct w 9999 52 _ _ fieldsV heldV]; obtain ⟨fs,hfs⟩ : ∃ fs,(Tryz.prog.fieldsOf 52).toList = fs := ⟨_,rfl⟩; rw [hfs]; have hu := Tryz.underlying52; rw [fieldsV] at hu
  injection hu with hu
  injection hu with hu
  rw [hu] at hfs; subst hfs
  simp [Op.eqFields,part,run_equalIn_int w 9998 3 .i64 .i64 _ _ Tryz.underlying3,run_equalIn_int w 9998 36 .u64 .u64 _ _ Tryz.underlying36,run_equalIn_string w 9998 9 _ _ Tryz.underlying9]
theorem neq_val (nm : ByteArray) (u num : Int) (w : World) : (binOp .neq 52 (.agg #[.string nm,.int .i64 u,.int .u64 num]) (.agg #[.string nm,.int .i64 u,.int .u64 num])).run Tryz.prog w = .ok (.bool false) w := by
  rw [run_neq_struct,eqIn_val]
  rfl
set_option maxHeartbeats 4000000 in
theorem sints_any {aX aY : Option Addr} {cX cY : Nat} {xs : List Int} (w : World) (hx : IR w aX xs) (hy : IR w aY xs) (hl : xs.length < 1000000000000000) :
    Calls Tryz.prog 14 #[.slice aX xs.length cX,.slice aY xs.length cY] w fun e w' => e = .returned (.bool true) /\ ∃ n,w' = w.drewN n := by
  generalize hPP : (fun (e : Ending) (w' : World) => e = .returned (.bool true) /\ ∃ n,w' = w.drewN n) = PP
  have HPP : Hid (∀ n,PP (.returned (.bool true)) (w.drewN n)) := fun n => by rw [<- hPP]; exact ⟨rfl,n,rfl⟩
  clear hPP; have HX : Hid (∀ j,j < xs.length -> ∃ a o b q x,aX = some ⟨a,o,none⟩ /\ aY = some ⟨b,q,none⟩ /\ ∀ m,(w.drewN m).cell? ⟨a,o + j,none⟩ = some (.int .i64 x) /\ (w.drewN m).cell? ⟨b,q + j,none⟩ = some (.int .i64 x)) := fun j hj => by
    obtain ⟨a,o,e1,_,e2⟩ := hx (by omega); obtain ⟨b,q,e3,_,e4⟩ := hy (by omega); exact ⟨a,o,b,q,_,e1,e3,fun _ => ⟨e2 j hj,e4 j hj⟩⟩
  clear hx hy
  generalize xs.length = k at *
  have qk : ((k : Int) == (k : Int)) = true := by simp
  go_enter Tryz.func14,Tryz.ntmps14
  go_wp2_with fail
  go_loopg [5] k (fun gk s5 wr => ∃ i : Nat,s5 = .int .i64 (i : Int) /\ i + gk = k /\ ∃ m,w.drewN m = wr)
  case atStart => exact ⟨0,rfl,by omega,0,rfl⟩
  case round =>
    obtain ⟨i,rfl,hi,m0,rfl⟩ := hrel
    by_cases hlt : i < k
    · obtain ⟨a,o,b,q,x,rfl,rfl,e1⟩ := HX.out i hlt
      obtain ⟨e2,e3⟩ := e1 m0; have q1 : (i : Int) < (k : Int) := by omega
      obtain ⟨W1,hW1⟩ : ∃ W1,w.drewN m0 = W1 := ⟨_,rfl⟩; have HW1 : Hid (w.drewN m0 = W1) := hW1; rw [hW1] at e2 e3 ⊢; clear e1 hW1
      go_wp2_with fail
      first | (go_quiet (fail)) | fail
      go_wp2
      go_roundg (gk - 1)
      case measure => omega
      case rel => exact ⟨i + 1,by simp,by omega,_,by rw [<- HW1.out,World.drewN_drewN]⟩
    have hji : i = k := by omega
    subst hji; have HP2 : Hid (PP (.returned (.bool true)) (w.drewN m0)) := HPP.out m0
    go_wp2
    first | exact HP2.out | (go_ret; exact HP2.out) | (go_ret2; exact HP2.out)
set_option maxHeartbeats 4000000 in
theorem svars_any {aX aY : Option Addr} {cX cY : Nat} {xs : List Vl} (w : World) (hx : VR w aX xs) (hy : VR w aY xs) (hl : xs.length < 1000000000000000) :
    Calls Tryz.prog 9 #[.slice aX xs.length cX,.slice aY xs.length cY] w fun e w' => e = .returned (.bool true) /\ ∃ n,w' = w.drewN n := by
  generalize hPP : (fun (e : Ending) (w' : World) => e = .returned (.bool true) /\ ∃ n,w' = w.drewN n) = PP
  have HPP : Hid (∀ n,PP (.returned (.bool true)) (w.drewN n)) := fun n => by rw [<- hPP]; exact ⟨rfl,n,rfl⟩
  clear hPP; have HX : Hid (∀ j,j < xs.length -> ∃ a o b q nm u num,aX = some ⟨a,o,none⟩ /\ aY = some ⟨b,q,none⟩ /\ ∀ m,((w.drewN m).cell? ⟨a,o + j * 3,none⟩ = some (.string nm) /\ (w.drewN m).cell? ⟨a,o + j * 3 + 1,none⟩ = some (.int .i64 u) /\ (w.drewN m).cell? ⟨a,o + j * 3 + 2,none⟩ = some (.int .u64 num)) /\ (w.drewN m).cell? ⟨b,q + j * 3,none⟩ = some (.string nm) /\ (w.drewN m).cell? ⟨b,q + j * 3 + 1,none⟩ = some (.int .i64 u) /\ (w.drewN m).cell? ⟨b,q + j * 3 + 2,none⟩ = some (.int .u64 num)) := fun j hj => by
    obtain ⟨a,o,e1,_,e2⟩ := hx (by omega); obtain ⟨b,q,e3,_,e4⟩ := hy (by omega); exact ⟨a,o,b,q,_,_,_,e1,e3,fun _ => ⟨e2 j hj,e4 j hj⟩⟩
  clear hx hy
  generalize xs.length = k at *
  have qk : ((k : Int) == (k : Int)) = true := by simp
  go_enter Tryz.func9,Tryz.ntmps9
  go_wp2_with fail
  go_loopg [5] k (fun gk s5 wr => ∃ i : Nat,s5 = .int .i64 (i : Int) /\ i + gk = k /\ ∃ m,w.drewN m = wr)
  case atStart => exact ⟨0,rfl,by omega,0,rfl⟩
  case round =>
    obtain ⟨i,rfl,hi,m0,rfl⟩ := hrel
    by_cases hlt : i < k
    · obtain ⟨a,o,b,q,nm,u,num,rfl,rfl,e1⟩ := HX.out i hlt
      obtain ⟨⟨e2,e3,e4⟩,e5,e6,e7⟩ := e1 m0; have hnv := fun W => neq_val nm u num W
      have q1 : (i : Int) < (k : Int) := by omega
      obtain ⟨W1,hW1⟩ : ∃ W1,w.drewN m0 = W1 := ⟨_,rfl⟩; have HW1 : Hid (w.drewN m0 = W1) := hW1; rw [hW1] at e2 e3 e4 e5 e6 e7 ⊢; clear e1 hW1
      go_wp2_with fail
      first | (go_quiet (fail)) | fail
      go_wp2
      go_roundg (gk - 1)
      case measure => omega
      case rel => exact ⟨i + 1,by simp,by omega,_,by rw [<- HW1.out,World.drewN_drewN]⟩
    have hji : i = k := by omega
    subst hji; have HP2 : Hid (PP (.returned (.bool true)) (w.drewN m0)) := HPP.out m0
    go_wp2
    first | exact HP2.out | (go_ret; exact HP2.out) | (go_ret2; exact HP2.out)
end Go.Proofs.YtldpkkbdhohcmaaGreatDoor.G3
namespace Go.Proofs.YtldpkkbdhohcmaaGreatDoor.G3
open Go.Proofs.YtldpkkbdhohcmaaGreatDoor
open Go.ChangeShapes Go.WideShapes Go.ChangeAt Go.RowKit Go.Lib Go.Tm Go.Bw Go.Bn Go.WideMaps Go.Maps Go.ChangeMaps Go.Shelf

theorem row_below {w w' : World} {B e k n : Nat} {v : Value} {xs : List Value} (h : w.ownsRow B e k v n xs) (hb : Below w.heap.size w w') : w'.ownsRow B e k v n xs :=
  ⟨h.1,h.2.imp id fun ⟨g,cap,cur,e,h2,h3,h4⟩ => ⟨g,cap,cur,e,h2,(hb.block g (Array.getElem?_eq_some_iff.1 h3).1).trans h3,h4⟩⟩
/-- values told one behind the other -/
structure VN (w0 : World) (xs : List Vl) (v : Value) (W : World) : Prop where
  row : W.ownsRow w0.heap.size 52 3 v xs.length (flatV xs)
  bel : Below w0.heap.size w0 W
theorem VN.over {w0 w w' : World} {xs : List Vl} {v : Value} (h : VN w0 xs v w) (hb : Below w.heap.size w w') : VN w0 xs v w' := ⟨row_below h.row hb,h.bel.trans (below_le' hb h.bel.size)⟩
theorem VN.nil (w : World) : VN w [] (.slice none 0 0) w := ⟨World.ownsRow_nil _ _ _ _,Below.refl _ _⟩
theorem VN.push {w0 w w4 : World} {xs : List Vl} {v : Value} {x : Vl} {g4 cap4 n : Nat} {ob : Obj} (hn : xs.length = n) (h : VN w0 xs v w) (hown : w4.ownsRow w0.heap.size 52 3 (.slice (some ⟨g4,0,none⟩) (n + 1) cap4) (n + 1) (flatV xs ++ vC x)) (hg : (w.alloc ob).grownBy w4 v.ownBlock) : VN w0 (xs ++ [x]) (.slice (some ⟨g4,0,none⟩) (n + 1) cap4) w4 := by
  subst hn; have h5 := h.over (bel1 w ob); refine ⟨by rw [flatV_app,List.length_append]; exact hown,⟨hg.os.trans h5.bel.os,hg.tape.trans h5.bel.tape,hg.output.trans h5.bel.output,Nat.le_trans h5.bel.size hg.size,fun j hj => (hg.block j (Nat.lt_of_lt_of_le hj h5.bel.size) (fun e => ?_)).trans (h5.bel.block j hj)⟩⟩
  rcases h.row.2 with ⟨e0,_⟩ | ⟨g,cap,cur,e0,hb,_⟩
  · rw [e0] at e; cases e
  rw [e0] at e; have e2 : j = g := by simpa [Value.ownBlock] using e
  omega
theorem VN.vr {w0 w : World} {xs : List Vl} {v : Value} (h : VN w0 xs v w) : ∃ ad c,v = .slice ad xs.length c /\ VR w ad xs := vr_row h.row
theorem VN.form {w0 w : World} {xs : List Vl} {v : Value} {n : Nat} (h : VN w0 xs v w) (hn : xs.length = n) : ∃ ad c,v = .slice ad n c := by
  obtain ⟨ad,c,e,_⟩ := h.vr; exact ⟨ad,c,by rw [e,hn]⟩
theorem varsF_take {L : List Nd} {O : List Nat} {i : Nat} (h : i < O.length) : varsF L (O.take (i + 1)) = varsF L (O.take i) ++ vrN L (O.getD i 0) := by
  rw [take_nat h]; unfold varsF; rw [List.flatMap_append,List.flatMap_cons,List.flatMap_nil,List.append_nil]
/-- the document's store,as it is read -/
structure SQ (W : World) (B : Nat) (adL : Option Addr) (n cL : Nat) (L : List Nd) : Prop where
  k1 : W.cell? ⟨B,1,none⟩ = some (.slice adL n cL)
  bl : B < W.heap.size
  ln : L.length = n
  nd : 0 < L.length -> ∃ g,adL = some ⟨g,0,none⟩ /\ g < W.heap.size /\ ∀ i j,i < L.length -> j < 7 -> W.cell? ⟨g,i * 7 + j,none⟩ = (ndC (L.getD i z0))[j]?
theorem SQ.below {W W' : World} {B n cL : Nat} {adL : Option Addr} {L : List Nd} (h : SQ W B adL n cL L) (hb : Below W.heap.size W W') : SQ W' B adL n cL L :=
  ⟨(World.cell?_of_block (hb.block B h.bl)).trans h.k1,Nat.lt_of_lt_of_le h.bl hb.size,h.ln,fun h0 => by
    obtain ⟨g,e,hg,hc⟩ := h.nd h0; exact ⟨g,e,Nat.lt_of_lt_of_le hg hb.size,fun i j hi hj => (World.cell?_of_block (a := ⟨g,i * 7 + j,none⟩) (hb.block g hg)).trans (hc i j hi hj)⟩⟩
theorem sq_of {B0 B : Nat} {lim : Int} {L : List Nd} {v : Value} {M1 M2 : Option Nat} {w : World} (hS : SM 69 w B0 B lim L v M1 M2) : ∃ adL cL,SQ w B adL L.length cL L := by
  obtain ⟨adL,cL,hv,hcL,hcell⟩ := hS.form; subst hv; refine ⟨adL,cL,blk_cell hS.blk 1,hS.lt (Or.inl rfl),rfl,fun h0 => ?_⟩; obtain ⟨g,e,hc⟩ := hcell h0; exact ⟨g,e,((hS.row).lt g (by rw [e]; rfl)).2,hc⟩
set_option maxHeartbeats 8000000 in
set_option maxRecDepth 100000 in
theorem rvars_ok {p : Nat} {ad : Option Addr} {q cp : Nat} {adL : Option Addr} {nL cL : Nat} {L : List Nd} {O : List Nat} (w : World) (hnb : nL <= 1000000000000) (hQ : SQ w p adL nL cL L) (hob : ∀ t ∈ O,1 <= t /\ t <= L.length) (hl : O.length <= 1000000000000)
    (hO : Calls Tryz.prog 21 #[.pointer (some ⟨p,0,none⟩),.slice ad q cp] w fun e w' => ∃ aO cO,e = .returned (.tuple #[.slice aO O.length cO,.int .i64 0]) /\ OR w' aO O /\ Below w.heap.size w w') :
    Calls Tryz.prog 7 #[.pointer (some ⟨p,0,none⟩),.slice ad q cp] w fun e w' => ∃ aS cS,e = .returned (.tuple #[.slice aS (varsF L O).length cS,.int .i64 0]) /\ VR w' aS (varsF L O) /\ Below w.heap.size w w' := by
  generalize hPP : (fun (e : Ending) (w' : World) => ∃ aS cS,e = .returned (.tuple #[.slice aS (varsF L O).length cS,.int .i64 0]) /\ VR w' aS (varsF L O) /\ Below w.heap.size w w') = PP
  obtain ⟨n,hn⟩ : ∃ n,O.length = n := ⟨_,rfl⟩; have HN : Hid (O.length = n) := hn; have HPP : Hid (∀ aS cS k w1 w',(varsF L O).length = k -> Below w.heap.size w w1 -> VN w1 (varsF L O) (.slice aS k cS) w' -> PP (.returned (.tuple #[.slice aS k cS,.int .i64 0])) w') := fun aS cS k w1 w' hk hb hv => by
    rw [<- hPP]; obtain ⟨ad,c,e,hvr⟩ := hv.vr; rw [hk] at e; cases e; exact ⟨_,_,by rw [hk],hvr,hb.trans (below_le' hv.bel hb.size)⟩
  have HO := Lib.hid hO; have HQ : Hid (SQ w p adL nL cL L) := hQ; have HOB : Hid (∀ t ∈ O,1 <= t /\ t <= L.length) := hob; rw [hn] at hl HO; clear hPP hn hO hQ hob; obtain ⟨i0,hti,hz0,hz1,hz2⟩ := info_parts (P := Tryz.prog) (e := 52) (z := vV vZ) (size := 3) (bytes := 32) (by kernel_rfl)
  go_enter Tryz.func7,Tryz.ntmps7
  go_wp2_with fail
  refine HO.out.mono ?_; rintro e w1 ⟨aO,cO,rfl,hor,hb1⟩; have H1 : Hid (Below w.heap.size w w1 /\ OR w1 aO O /\ SQ w1 p adL nL cL L) := ⟨hb1,hor,HQ.out.below hb1⟩; clear hb1 hor HO
  go_wp2_with fail
  go_loopg [8,9] n (fun gk s8 s9 wr => ∃ (i : Nat) (aT : Option Addr) (cT k : Nat),s8 = .slice aT k cT /\ s9 = .int .i64 (i : Int) /\ i + gk = n /\ (varsF L (O.take i)).length = k /\ VN w1 (varsF L (O.take i)) (.slice aT k cT) wr)
  case atStart => exact ⟨0,none,0,0,rfl,rfl,by omega,rfl,VN.nil w1⟩
  case round =>
    obtain ⟨i,aT,cT,k,rfl,rfl,hi,hk,hvn⟩ := hrel; have HR : Hid (VN w1 (varsF L (O.take i)) (.slice aT k cT) wr) := hvn; have HK : Hid ((varsF L (O.take i)).length = k) := hk; have hkl : k <= 1000000000000 := by
      rw [<- hk]; refine Nat.le_trans (varsF_len L _) ?_; rw [List.length_take]
      omega
    clear hvn hk
    by_cases hlt : i < n
    · have hlo : i < O.length := by rw [HN.out]; exact hlt
      obtain ⟨b,o,rfl,hbl,hc⟩ := (H1.out.2.1.below HR.out.bel) (by omega); have c1 := hc i hlo; have hqw := H1.out.2.2.below HR.out.bel; have htm : O.getD i 0 ∈ O := by rw [List.getD_eq_getElem?_getD,List.getElem?_eq_getElem hlo]; exact List.getElem_mem _
      have htb := HOB.out _ htm; have HTS : Hid (varsF L (O.take (i + 1)) = varsF L (O.take i) ++ vrN L (O.getD i 0)) := varsF_take hlo; have hk1 := hqw.k1; have hpl := hqw.bl; have hln := hqw.ln; obtain ⟨g,rfl,hgl,hnd⟩ := hqw.nd (by omega); clear hc hqw
      generalize O.getD i 0 = t at *
      obtain ⟨j,rfl⟩ : ∃ j,t = j + 1 := ⟨t - 1,by omega⟩; have hjn : j < nL := by omega
      have hnd2 := fun y hy => hnd j y (by omega) hy
      have hvr : vrN L (j + 1) = if (L.getD j z0).op = 4 then [⟨(L.getD j z0).name,(L.getD j z0).w,0⟩] else [] := rfl; rw [hvr] at HTS; clear hnd hvr htm htb
      generalize L.getD j z0 = nd at *
      obtain ⟨op,u,na,nb,nc,num,nm⟩ := nd
      dsimp only at HTS
      have d0 : wr.cell? ⟨g,j * 7,none⟩ = some (.int .i64 op) := hnd2 0 (by omega); have d1 : wr.cell? ⟨g,j * 7 + 1,none⟩ = some (.int .i64 u) := hnd2 1 (by omega); have d2 : wr.cell? ⟨g,j * 7 + 2,none⟩ = some (.int .i64 na) := hnd2 2 (by omega); have d3 : wr.cell? ⟨g,j * 7 + 3,none⟩ = some (.int .i64 nb) := hnd2 3 (by omega); have d4 : wr.cell? ⟨g,j * 7 + 4,none⟩ = some (.int .i64 nc) := hnd2 4 (by omega); have d5 : wr.cell? ⟨g,j * 7 + 5,none⟩ = some (.int .u64 num) := hnd2 5 (by omega); have d6 : wr.cell? ⟨g,j * 7 + 6,none⟩ = some (.string nm) := hnd2 6 (by omega); have q1 : (i : Int) < (n : Int) := by omega
      have q2 : (j : Int) < (nL : Int) := by omega
      clear hnd2
      by_cases h4 : op = 4
      · rw [if_pos h4] at HTS
        subst h4
        go_wp2_with fail
        go_region
        obtain ⟨Wd,hWd⟩ : ∃ Wd,(wr.alloc (Obj.cells #[.int .i64 4,.int .i64 u,.int .i64 na,.int .i64 nb,.int .i64 nc,.int .u64 num,.string nm] 64)).drew = Wd := ⟨_,rfl⟩; have hbx : Wd.heap[wr.heap.size]? = some (Obj.cells #[.int .i64 4,.int .i64 u,.int .i64 na,.int .i64 nb,.int .i64 nc,.int .u64 num,.string nm] 64 (0,0)) := by rw [<- hWd]; exact heap_alloc_new wr _
        have hbd : Below wr.heap.size wr Wd := by rw [<- hWd]; exact (bel1 wr _).trans ⟨rfl,rfl,rfl,Nat.le_refl _,fun _ _ => rfl⟩
        have HRd : Hid (VN w1 (varsF L (O.take i)) (.slice aT k cT) Wd) := HR.out.over hbd; have b0 : Wd.cell? ⟨wr.heap.size,0,none⟩ = some (.int .i64 4) := blk_cell hbx 0; have b1 : Wd.cell? ⟨wr.heap.size,1,none⟩ = some (.int .i64 u) := blk_cell hbx 1; have b6 : Wd.cell? ⟨wr.heap.size,6,none⟩ = some (.string nm) := blk_cell hbx 6; have hsd : w1.heap.size <= Wd.heap.size := HRd.out.bel.size; rw [hWd]; clear hWd hbx hbd d0 d1 d2 d3 d4 d5 d6 c1 hk1; have HRW : Hid (∀ a,World.ownsRow (Wd.alloc a) w1.heap.size 52 3 (.slice aT k cT) k (flatV (varsF L (O.take i)))) := fun a => by
          have h1 := (HRd.out.over (bel1 Wd a)).row; rw [HK.out] at h1; exact h1
        go_wp2_with (at_builtin; refine wpList_append_lies _ rfl _ _ 28 rfl w1.heap.size 52 i0 (vV vZ) 3 32 Tryz.underlying28 hti hz0 hz1 hz2 rfl (by decide) _ _ _ rfl (HRW.out _) ⟨Wd.heap.size,0,none⟩ 1 1 [.string nm,.int .i64 u,.int .u64 0] rfl rfl (cells_new3 _ _ _) (by intro u hu; simp at hu; rcases hu with rfl | rfl | rfl <;> rfl) (by omega) (by unfold maxLen; omega) (by omega) (by simp; omega) (Wd.heap.size + 1) (by simp) ?_; intro g5 cap5 w7 hown5 hgrow5 hat5 hlt5; have HM5 : Hid (VN w1 (varsF L (O.take i) ++ [(⟨nm,u,0⟩ : Vl)]) (.slice (some ⟨g5,0,none⟩) (k + 1) cap5) w7) := VN.push HK.out HRd.out hown5 hgrow5; clear hown5 hgrow5 hat5 hlt5; refine Hid.out ?_)
        refine Lib.hid ?_
        go_wp2_with fail
        go_roundg (gk - 1)
        case measure => omega
        case rel => exact ⟨i + 1,_,_,k + 1,rfl,by simp,by omega,by rw [HTS.out,List.length_append,HK.out]; rfl,by rw [HTS.out]; exact HM5.out⟩
      rw [if_neg h4,List.append_nil] at HTS
      go_wp2_with fail
      go_region
      obtain ⟨Wd,hWd⟩ : ∃ Wd,(wr.alloc (Obj.cells #[.int .i64 op,.int .i64 u,.int .i64 na,.int .i64 nb,.int .i64 nc,.int .u64 num,.string nm] 64)).drew = Wd := ⟨_,rfl⟩; have hbx : Wd.heap[wr.heap.size]? = some (Obj.cells #[.int .i64 op,.int .i64 u,.int .i64 na,.int .i64 nb,.int .i64 nc,.int .u64 num,.string nm] 64 (0,0)) := by rw [<- hWd]; exact heap_alloc_new wr _
      have hbd : Below wr.heap.size wr Wd := by rw [<- hWd]; exact (bel1 wr _).trans ⟨rfl,rfl,rfl,Nat.le_refl _,fun _ _ => rfl⟩
      have HRd : Hid (VN w1 (varsF L (O.take i)) (.slice aT k cT) Wd) := HR.out.over hbd; have b0 : Wd.cell? ⟨wr.heap.size,0,none⟩ = some (.int .i64 op) := blk_cell hbx 0; have b1 : Wd.cell? ⟨wr.heap.size,1,none⟩ = some (.int .i64 u) := blk_cell hbx 1; have b6 : Wd.cell? ⟨wr.heap.size,6,none⟩ = some (.string nm) := blk_cell hbx 6; have hsd : w1.heap.size <= Wd.heap.size := HRd.out.bel.size; rw [hWd]; clear hWd hbx hbd d0 d1 d2 d3 d4 d5 d6 c1 hk1
      go_wp2_with fail
      go_roundg (gk - 1)
      case measure => omega
      case rel => exact ⟨i + 1,aT,cT,k,rfl,by simp,by omega,by rw [HTS.out]; exact HK.out,by rw [HTS.out]; exact HRd.out⟩
    obtain rfl : i = n := by omega
    have ht : O.take i = O := by rw [<- HN.out,List.take_length]
    rw [ht] at HR HK; have HF := HPP.out aT cT k w1 wr HK.out H1.out.1 HR.out
    go_wp2_with fail
    first
      | exact HF
      | (go_ret2; exact HF)
end Go.Proofs.YtldpkkbdhohcmaaGreatDoor.G3
