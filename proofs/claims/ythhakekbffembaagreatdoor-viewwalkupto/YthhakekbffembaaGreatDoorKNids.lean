import Derived.Test.YthhakekbffembaaGreatDoorKNbase
set_option maxRecDepth 8000
set_option maxHeartbeats 400000

namespace Go.Proofs.YthhakekbffembaaGreatDoor.Ck
open Go.RowKit
theorem cxz (z:Int) (w:World):Calls Tryz.prog 138 #[.int .i64 z] w λe w'=>e=.returned (.bool (bRz z))∧w'=w:=by
 by_cases h0:0≤z
 ·have HE:Hid (bRz z=decide (z<64)):=by show _=_;simp[bRz,h0]
  go_enter Tryz.func138,Tryz.ntmps138
  go_wp2
  go_ret
  rw[HE.out]
  exact⟨rfl,rfl⟩
 ·have HE:Hid (bRz z=false):=by show _=_;simp[bRz];omega
  go_enter Tryz.func138,Tryz.ntmps138
  go_wp2
  go_ret
  rw[HE.out]
  exact⟨rfl,rfl⟩
theorem hLz (x:Int) (w:World):Calls Tryz.prog 137 #[.int .i64 x] w λe w'=>e=.returned (.bool (dCz x))∧w'=w:=by
 by_cases h0:0≤x
 ·have HE:Hid (dCz x=decide (x≤1152921504606846976)):=by show _=_;simp[dCz,h0]
  go_enter Tryz.func137,Tryz.ntmps137
  go_wp2
  go_ret
  rw[HE.out]
  exact⟨rfl,rfl⟩
 ·have HE:Hid (dCz x=false):=by show _=_;simp[dCz];omega
  go_enter Tryz.func137,Tryz.ntmps137
  go_wp2
  go_ret
  rw[HE.out]
  exact⟨rfl,rfl⟩
theorem lNz (x:Int) (w:World):Calls Tryz.prog 180 #[.int .i64 x] w λe w'=>e=.returned (.bool false)∧w'=w:=by
 have hxx:(x != x)=false:=by simp
 go_enter Tryz.func180,Tryz.ntmps180
 go_wp2
 go_ret
 exact⟨rfl,rfl⟩
theorem lyz (x:Int) (w:World):Calls Tryz.prog 181 #[.int .i64 x] w λe w'=>e=.returned (.bool false)∧w'=w:=by
 have hxx:(x != x)=false:=by simp
 go_enter Tryz.func181,Tryz.ntmps181
 go_wp2
 go_ret
 exact⟨rfl,rfl⟩
theorem kaz (x y:Int) (w:World):Calls Tryz.prog 146 #[.int .i64 x,.int .i64 y] w λe w'=>e=.returned (.int .i64 (cEz x y))∧w'=w:=by
 by_cases h:x<y
 ·rw[ezz h]
  go_enter Tryz.func146,Tryz.ntmps146
  go_wp2_with (go_at_call 180;refine adz (lNz _ _) ?_)
  go_ret
  exact⟨rfl,rfl⟩
 ·by_cases h':y<x
  ·rw[eGz h']
   go_enter Tryz.func146,Tryz.ntmps146
   go_wp2_with (go_at_call 180;refine adz (lNz _ _) ?_)
   go_ret
   exact⟨rfl,rfl⟩
  ·rw[d0z (by omega)]
   go_enter Tryz.func146,Tryz.ntmps146
   go_wp2_with (go_at_call 180;refine adz (lNz _ _) ?_)
   go_ret
   exact⟨rfl,rfl⟩
theorem jwz (x y:Int) (w:World):Calls Tryz.prog 147 #[.int .i64 x,.int .i64 y] w λe w'=>e=.returned (.int .i64 (cEz x y))∧w'=w:=by
 by_cases h:x<y
 ·rw[ezz h]
  go_enter Tryz.func147,Tryz.ntmps147
  go_wp2_with (go_at_call 181;refine adz (lyz _ _) ?_)
  go_ret
  exact⟨rfl,rfl⟩
 ·by_cases h':y<x
  ·rw[eGz h']
   go_enter Tryz.func147,Tryz.ntmps147
   go_wp2_with (go_at_call 181;refine adz (lyz _ _) ?_)
   go_ret
   exact⟨rfl,rfl⟩
  ·rw[d0z (by omega)]
   go_enter Tryz.func147,Tryz.ntmps147
   go_wp2_with (go_at_call 181;refine adz (lyz _ _) ?_)
   go_ret
   exact⟨rfl,rfl⟩
theorem valid_any (t n:Int) (w:World):Calls Tryz.prog 99 #[idv t n] w λe w'=>e=.returned (.bool (validB t n))∧Below w.heap.size w w':=by
 obtain⟨o,ho⟩:∃o,o=Obj.cells #[.int .i64 t,.int .i64 n] 28:=⟨_,rfl⟩
 have c23:=hLz t
 have c24:=cxz n
 have HB:Hid (∀o,Below w.heap.size w (w.alloc o)):=λo=>(a3z w o).out
 by_cases h0:0<t
 ·by_cases h1:t≤1152921504606846976
  ·have HE:Hid (validB t n=bRz n):=by show _=_;simp[validB,bRz,h1,show(1:Int)≤t by omega]
   have h2:dCz t=true:=by simp[dCz,h1];omega
   rw[h2]at c23
   go_enter Tryz.func99,Tryz.ntmps99
   go_wp2_with (first|(go_at_call 137;refine adz (c23 _) ?_)|(go_at_call 138;refine adz (c24 _) ?_))
   go_ret
   rw[HE.out]
   exact⟨rfl,HB.out _⟩
  ·have HE:Hid (validB t n=false):=by show _=_;simp[validB];omega
   have h2:dCz t=false:=by simp[dCz];omega
   rw[h2]at c23
   go_enter Tryz.func99,Tryz.ntmps99
   go_wp2_with (first|(go_at_call 137;refine adz (c23 _) ?_)|(go_at_call 138;refine adz (c24 _) ?_))
   go_ret
   rw[HE.out]
   exact⟨rfl,HB.out _⟩
 ·have HE:Hid (validB t n=false):=by show _=_;simp[validB];omega
  go_enter Tryz.func99,Tryz.ntmps99
  go_wp2_with (first|(go_at_call 137;refine adz (c23 _) ?_)|(go_at_call 138;refine adz (c24 _) ?_))
  go_ret
  rw[HE.out]
  exact⟨rfl,HB.out _⟩
theorem rvalid_any (t n:Int) (w:World):Calls Tryz.prog 60 #[idv t n] w λe w'=>e=.returned (.bool (validB t n))∧Below w.heap.size w w':=by
 have HB:Hid (∀o,Below w.heap.size w (w.alloc o)):=λo=>(a3z w o).out
 by_cases h0:1≤t
 ·by_cases h1:t≤1152921504606846976
  ·by_cases h2:0≤n
   ·have HE:Hid (validB t n=decide (n<64)):=by show _=_;simp[validB,h0,h1,h2]
    go_enter Tryz.func60,Tryz.ntmps60
    go_wp2
    go_ret
    rw[HE.out]
    exact⟨rfl,HB.out _⟩
   ·have HE:Hid (validB t n=false):=by show _=_;simp[validB];omega
    go_enter Tryz.func60,Tryz.ntmps60
    go_wp2
    go_ret
    rw[HE.out]
    exact⟨rfl,HB.out _⟩
  ·have HE:Hid (validB t n=false):=by show _=_;simp[validB];omega
   go_enter Tryz.func60,Tryz.ntmps60
   go_wp2
   go_ret
   rw[HE.out]
   exact⟨rfl,HB.out _⟩
 ·have HE:Hid (validB t n=false):=by show _=_;simp[validB];omega
  go_enter Tryz.func60,Tryz.ntmps60
  go_wp2
  go_ret
  rw[HE.out]
  exact⟨rfl,HB.out _⟩
theorem rless_any (t n t' n':Int) (w:World):Calls Tryz.prog 97 #[idv t n,idv t' n'] w λe w'=>e=.returned (.bool (lessB t n t' n'))∧Below w.heap.size w w':=by
 have HB:Hid (∀o o',Below w.heap.size w ((w.alloc o).alloc o')):=λo o'=>(b0z w o o').out
 by_cases h0:t<t'
 ·have HE:Hid (lessB t n t' n'=true):=by show _=_;simp[lessB,h0]
  go_enter Tryz.func97,Tryz.ntmps97
  go_wp2
  go_ret
  rw[HE.out]
  exact⟨rfl,HB.out _ _⟩
 ·by_cases h1:t=t'
  ·subst h1
   have HE:Hid (lessB t n t n'=decide (n<n')):=by show _=_;simp[lessB]
   go_enter Tryz.func97,Tryz.ntmps97
   go_wp2
   go_ret
   rw[HE.out]
   exact⟨rfl,HB.out _ _⟩
  ·have HE:Hid (lessB t n t' n'=false):=by show _=_;simp[lessB];omega
   go_enter Tryz.func97,Tryz.ntmps97
   go_wp2
   go_ret
   rw[HE.out]
   exact⟨rfl,HB.out _ _⟩
end Go.Proofs.YthhakekbffembaaGreatDoor.Ck
